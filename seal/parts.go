package seal

import "tailrace/api"

const (
	width = 3         // bytes of a number: a length, or a sum
	head  = 2 * width // the length, and its sum

	start = 0xB704CE
	poly  = 0x864CFB
	full  = 0xFFFFFF
	top   = 0x800000
)

// turn is a sum with one byte more. All eight bits are laid on the register at
// once: each is met where it falls out, so it is the same as bit by bit.
func turn(sum uint32, c byte) uint32 {
	sum ^= uint32(c) << 16
	for range 8 {
		out := sum & top
		sum = sum << 1 & full
		if out != 0 {
			sum ^= poly
		}
	}
	return sum
}

func put(b []byte, n uint32) []byte {
	return append(b, byte(n>>16), byte(n>>8), byte(n))
}

func number(b []byte) uint32 {
	return uint32(b[0])<<16 | uint32(b[1])<<8 | uint32(b[2])
}

// sealed tells whether b ends with the sum of what stands ahead of it.
func sealed(b []byte) bool {
	n := len(b) - width
	return Sum(b[:n]) == number(b[n:])
}

// length is what the head at the beginning of b says.
func length(b []byte) (int, api.Errno) {
	if len(b) < head {
		return 0, api.ErrText
	}
	if !sealed(b[:head]) {
		return 0, api.ErrSum
	}
	n := int(number(b))
	if n > api.MaxRecord {
		return 0, api.ErrText
	}
	return n, api.OK
}

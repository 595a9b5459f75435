package wire_test

import (
	"slices"
	"testing"

	"tailrace/api"
	"tailrace/wire"
)

// Wi2: a message of which some bits are turned

// turn turns the bit at a place, the highest of the first byte being the first.
func turn(b []byte, at int) { b[at/8] ^= 0x80 >> (at % 8) }

// headBits is how many bits a sealed record's head has.
const headBits = 48

// windows hands on all places of 24 bits that follow one another in the head, or in what follows it.
func windows(b []byte, see func(from, to int)) {
	for from := range 8 * len(b) {
		end := headBits
		if from >= headBits {
			end = 8 * len(b)
		}
		see(from, min(from+24, end))
	}
}

// short are messages of each kind, with little in them, so that all can be tried.
func short() []api.Msg {
	l := []api.Msg{
		{Kind: api.MsgForward, Chain: 1, At: 3, Entries: [][]byte{[]byte("ab")}},
		{Kind: api.MsgAsk, Chain: 1, Request: api.Request{Client: 5, Id: 2, Op: api.Op{Kind: api.OpPut, Key: "x", Doc: docs()[2]}}},
	}
	for _, kind := range kinds() {
		l = append(l, api.Msg{Kind: kind})
	}
	return l
}

func TestTurnedBits(t *testing.T) {
	for _, m := range short() {
		right, _ := wire.Encode(m)
		b := slices.Clone(right)
		windows(b, func(from, to int) {
			// The first one, the last one of all lengths, and none, or all, between.
			for last := from; last < to; last++ {
				turn(b, from)
				if last > from {
					turn(b, last)
				}
				msgs(t).rejects(b)
				for at := from + 1; at < last; at++ {
					turn(b, at)
				}
				msgs(t).rejects(b)
				copy(b, right)
			}
		})
	}
}

func TestBitsTurnedByDice(t *testing.T) {
	d := dice(2)
	for _, m := range append(short(), msg(api.MsgTell), msg(api.MsgConf)) {
		right, _ := wire.Encode(m)
		b := slices.Clone(right)
		windows(b, func(from, to int) {
			for range 8 {
				turn(b, from)
				for at := from + 1; at < to; at++ {
					if d.roll(2) == 0 {
						turn(b, at)
					}
				}
				msgs(t).rejects(b)
				copy(b, right)
			}
		})
	}
}

package ether_test

import (
	"bytes"
	"fmt"
	"math"
	"math/big"
	"slices"
	"strconv"
	"strings"
	"testing"

	"tailrace/ether"
)

// Et1: Bend.

func TestBend(t *testing.T) {
	for _, c := range []struct {
		b    string
		w    int
		want string
	}{
		// The number of 0 is 1, of 1 it is 9e38 (bits 3, 4, 5, 9, 10, 11, 12 and 15).
		{"00 00 00", 0, "80 00 00"},
		{"00 00 00 00", 1, "0e 3c 80 00"},
		{"ff ff ff ff", 1, "f1 c3 7f ff"},
		{"0e 3c 80 00", 1, "00 00 00 00"},
		// What lies beyond the end is not there.
		{"00 00", 1, "0e 3c"}, {"00", 1, "0e"}, {"00", 0, "80"}, {"00 00 00", 1, "0e 3c 80"},
		// Of 24 it is ed529 (bits 0, 3, 5, 8, 10, 12, 14, 15, 17, 18 and 19), and bit 24 of three bytes is their first.
		{"00 00 00", 24, "94 ab 70"}, {"00 00 00 00", 24, "00 00 00 94"}, {"00 00 00 00 00 00", 24, "00 00 00 94 ab 70"}, {"00 00 00 00 00", 24, "00 00 00 94 ab"},
		// Below 0: of -1 it is ffff61ca, of -2 fffec393, and they begin one and two bits ahead of the end.
		{"00", -1, "00"}, {"00 00 00 00", -1, "00 00 00 00"}, {"00", -2, "03"}, {"a5 5a", -2, "a5 59"},
		// Of w the lowest 32 bits: of 2^32 it is 1 again.
		{"00 00 00", 1 << 32, "00 00 80"}, {"00 00 00 00", 1<<32 + 1, "0e 3c 80 00"}, {"00 00 00 00", 1 - 1<<32, "0e 3c 80 00"},
		{"00 00 00 00", math.MinInt, "80 00 00 00"}, {"00", math.MaxInt, "00"}, {"00", math.MaxInt - 1, "03"},
	} {
		b := unspelt(t, c.b)
		if got := spelt(ether.Bend(b, c.w)); got != c.want {
			t.Errorf("Bend(%s, %d) = %s; want %s", c.b, c.w, got, c.want)
		}
	}
}

func TestBendOfNothing(t *testing.T) {
	for _, w := range []int{0, 1, 7, -1, math.MinInt, math.MaxInt} {
		if b, c := ether.Bend(nil, w), ether.Bend([]byte{}, w); len(b) != 0 || len(c) != 0 {
			t.Errorf("Bend of no bytes at %d = %v, %v", w, b, c)
		}
	}
}

func spelt(b []byte) string { return fmt.Sprintf("% x", b) }

func unspelt(t *testing.T, s string) []byte {
	t.Helper()
	var b []byte
	for _, f := range strings.Fields(s) {
		n, e := strconv.ParseUint(f, 16, 8)
		if e != nil {
			t.Fatal(e)
		}
		b = append(b, byte(n))
	}
	return b
}

// bits are those of bytes as signs 0 and 1, the first byte's highest first.
func bits(b []byte) []byte {
	var s []byte
	for _, x := range b {
		s = fmt.Appendf(s, "%08b", x)
	}
	return s
}

// bytesOf are the bytes of such signs.
func bytesOf(s []byte) []byte {
	var b []byte
	for eight := range slices.Chunk(s, 8) {
		n, _ := strconv.ParseUint(string(eight), 2, 8)
		b = append(b, byte(n))
	}
	return b
}

// number is what bends at w, by numbers of any size.
func number(w int) *big.Int {
	all := new(big.Int).Lsh(big.NewInt(1), 32)
	n := new(big.Int).Mod(big.NewInt(int64(w)), all)
	n.Mul(n, big.NewInt(40503)).Add(n, big.NewInt(1))
	return n.Mod(n, all)
}

// bentPlainly are bytes bent at w, a sign at a time.
func bentPlainly(b []byte, w int) []byte {
	s := bits(b)
	if len(s) == 0 {
		return nil
	}
	first := int(new(big.Int).Mod(big.NewInt(int64(w)), big.NewInt(int64(len(s)))).Int64())
	n := number(w)
	for i := range 24 {
		if n.Bit(i) == 1 && first+i < len(s) {
			s[first+i] ^= '0' ^ '1'
		}
	}
	return bytesOf(s)
}

// places are those of many kinds, about 0, about powers of two, and thrown.
func places() []int {
	l := []int{math.MinInt, math.MinInt + 1, math.MaxInt, math.MaxInt - 1}
	for i := range 600 {
		l = append(l, i, -i)
	}
	for i := range 63 {
		l = append(l, 1<<i, 1<<i-1, 1<<i+1, -1<<i, -1<<i+1, -1<<i-1)
	}
	d := dice(1)
	for range 300 {
		n := d.throw(1<<22)<<40 ^ d.throw(1<<22)<<20 ^ d.throw(1<<22)
		l = append(l, n, -n)
	}
	return l
}

func TestBendBySigns(t *testing.T) {
	d := dice(2)
	for _, n := range []int{1, 2, 3, 4, 5, 7, 8, 31, 64, 300} {
		b := make([]byte, n)
		for i := range b {
			b[i] = byte(d.throw(256))
		}
		was := slices.Clone(b)
		for _, w := range places() {
			got, want := ether.Bend(b, w), bentPlainly(b, w)
			if !bytes.Equal(got, want) {
				t.Fatalf("Bend(% x, %d) = % x; want % x", b, w, got, want)
			}
			if !bytes.Equal(ether.Bend(got, w), b) {
				t.Fatalf("bent at %d again, % x is % x", w, got, ether.Bend(got, w))
			}
			if !bytes.Equal(b, was) {
				t.Fatalf("Bend at %d turned what was handed in", w)
			}
		}
	}
}

// A number may have none of its lowest 24 bits: then none are turned, though it has higher ones.
func TestBendThatTurnsNothing(t *testing.T) {
	inverse := new(big.Int).ModInverse(big.NewInt(40503), big.NewInt(1<<24))
	w := 1<<24 - int(inverse.Int64())
	if n := number(w); n.Int64()%(1<<24) != 0 || n.Sign() == 0 {
		t.Fatalf("the number of %d is %x", w, n)
	}
	for _, w := range []int{w, w + 1<<24, w - 1<<24, w + 1<<33} {
		b := []byte(strings.Repeat("abc", 40))
		if got := ether.Bend(b, w); string(got) != string(b) {
			t.Errorf("Bend at %d = %q", w, got)
		}
	}
}

// Of many bytes but the window's are turned, wherever it is.
func TestBendOfManyBytes(t *testing.T) {
	b := make([]byte, 1<<16)
	for _, w := range []int{0, 1, 1000, 8*len(b) - 1, 8*len(b) - 2, 8*len(b) - 24, 8*len(b) - 25, 8 * len(b), 8*len(b) + 3, -24, -25, -1000, math.MinInt, math.MaxInt} {
		first := (w%(8*len(b)) + 8*len(b)) % (8 * len(b))
		want := bentPlainly(b, w)
		got := ether.Bend(b, w)
		if !bytes.Equal(got, want) {
			t.Errorf("Bend of many at %d turns others", w)
		}
		for i, x := range got {
			if x != 0 && (i < first/8 || i > (first+23)/8) {
				t.Errorf("Bend of many at %d turns byte %d", w, i)
			}
		}
	}
}

package rank

import (
	"strings"

	"tailrace/api"
)

const (
	// lift makes every number of a value one above 0, so that their bytes,
	// the highest first, are ordered as they are.
	lift     = 1 << 62
	numBytes = 8

	// A text goes by groups, each with a mark behind it. The mark of one that
	// is not the last is above all marks of last ones, since the text that
	// goes on is behind the one that ends there.
	group  = 7
	goesOn = 8
)

// putValue appends the key of a value that may be.
func putValue(b []byte, v api.Value) []byte {
	b = append(b, byte(v.Kind))
	switch v.Kind {
	case api.ValNum:
		return putNum(b, v.Num)
	case api.ValText:
		return putText(b, v.Text)
	}
	return putNum(putNum(b, v.Point.Re), v.Point.Im)
}

func putNum(b []byte, n int) []byte {
	u := uint64(n + lift)
	for i := numBytes - 1; i >= 0; i-- {
		b = append(b, byte(u>>(8*i)))
	}
	return b
}

// putText has a last group behind each text, also of none of its bytes.
func putText(b []byte, s string) []byte {
	for len(s) >= group {
		b = append(b, s[:group]...)
		b = append(b, goesOn)
		s = s[group:]
	}
	b = append(b, s...)
	for range group - len(s) {
		b = append(b, 0)
	}
	return append(b, byte(len(s)))
}

// reader reads values off the beginning of a key; its methods tell false where
// there is none that may be.
type reader struct{ rest string }

// value is for a rest that is not empty.
func (r *reader) value() (api.Value, bool) {
	kind := int(r.rest[0])
	r.rest = r.rest[1:]
	var v api.Value
	var ok bool
	switch kind {
	case api.ValNum:
		v, ok = r.num()
	case api.ValText:
		v, ok = r.text()
	case api.ValPoint:
		v, ok = r.point()
	default:
		return api.Value{}, false
	}
	return v, ok && Check(v) == api.OK
}

// take is the next n bytes.
func (r *reader) take(n int) (string, bool) {
	if len(r.rest) < n {
		return "", false
	}
	s := r.rest[:n]
	r.rest = r.rest[n:]
	return s, true
}

func (r *reader) num() (api.Value, bool) {
	n, ok := r.whole()
	return Num(n), ok
}

func (r *reader) point() (api.Value, bool) {
	re, ok := r.whole()
	im, also := r.whole()
	return Point(re, im), ok && also
}

// whole is a number of any eight bytes, since all 2^64 are numbers of their
// own behind the wrap-round: none that may not be comes out as one that may.
func (r *reader) whole() (int, bool) {
	s, ok := r.take(numBytes)
	var u uint64
	for i := range len(s) {
		u = u<<8 | uint64(s[i])
	}
	return int(u - lift), ok
}

func (r *reader) text() (api.Value, bool) {
	var t strings.Builder
	for t.Len() <= api.MaxText {
		s, ok := r.take(group + 1)
		if !ok {
			return api.Value{}, false
		}
		mark := int(s[group])
		if mark == goesOn {
			t.WriteString(s[:group])
			continue
		}
		if mark >= group || strings.Trim(s[mark:group], "\x00") != "" {
			return api.Value{}, false
		}
		t.WriteString(s[:mark])
		return Text(t.String()), true
	}
	return api.Value{}, false
}

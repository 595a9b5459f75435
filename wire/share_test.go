package wire_test

import (
	"fmt"
	"reflect"
	"testing"

	"tailrace/api"
	"tailrace/wire"
)

// R3

// room is a thing with something behind the end of each list, twice as long each.
func room[T any](one T) T {
	v := reflect.ValueOf(&one).Elem()
	widen(v)
	return one
}

func widen(v reflect.Value) {
	switch v.Kind() {
	case reflect.Slice:
		n := v.Len()
		wide := reflect.MakeSlice(v.Type(), 2*n+1, 2*n+1)
		d := dice(n)
		for i := range 2*n + 1 {
			if i < n {
				wide.Index(i).Set(v.Index(i))
				widen(wide.Index(i))
			} else if wide.Index(i).Kind() != reflect.Struct {
				d.fill(wide.Index(i), 0)
			}
		}
		v.Set(wide.Slice(0, n))
	case reflect.Struct:
		for i := range v.NumField() {
			widen(v.Field(i))
		}
	}
}

// owner knows whose the pieces of memory are.
type owner struct {
	t     *testing.T
	taken map[any]string
	seen  int
}

// take takes all that is in a thing, what is behind the ends of its lists too, and tells of it.
func (o *owner) take(name string, v reflect.Value) string {
	told := ""
	switch v.Kind() {
	case reflect.Slice:
		told = fmt.Sprint("list ", v.Len(), ": ")
		v = v.Slice(0, v.Cap())
		for i := range v.Len() {
			at := v.Index(i).Addr().Interface()
			if other, ok := o.taken[at]; ok {
				o.t.Errorf("%s and %s share memory", name, other)
			}
			o.taken[at] = name
			o.seen++
			told += o.take(name, v.Index(i)) + ", "
		}
	case reflect.Struct:
		for i := range v.NumField() {
			told += o.take(fmt.Sprint(name, ".", v.Type().Field(i).Name), v.Field(i)) + "; "
		}
	default:
		told = fmt.Sprintf("%#v", v.Interface())
	}
	return told
}

// apart asks a line to leave what it is handed as it is, and to share nothing with it.
func apart[T any](l line[T], one T) {
	l.t.Helper()
	one = room(one)
	b, e := l.write(one)
	own := owner{t: l.t, taken: map[any]string{}}
	was := own.take("what is handed in", reflect.ValueOf(one))
	own.take("its bytes", reflect.ValueOf(b))
	again, _ := l.write(one)
	own.take("its bytes again", reflect.ValueOf(again))
	if now := (&owner{t: l.t, taken: map[any]string{}}).take("it", reflect.ValueOf(one)); now != was || e != api.OK {
		l.t.Errorf("%s turns what is handed in: %s to %s, error %d", l.name, was, now, e)
	}
	b = room(b)
	bytesWere := fmt.Sprint(b[:cap(b)])
	own.take("bytes that are handed in", reflect.ValueOf(b))
	x, _ := l.read(b)
	own.take("what is read", reflect.ValueOf(x))
	y, _ := l.read(b)
	own.take("what is read again", reflect.ValueOf(y))
	if bytesWere != fmt.Sprint(b[:cap(b)]) {
		l.t.Errorf("reading %s turns the bytes", l.name)
	}
	if own.seen < 50 {
		l.t.Errorf("%s: %d pieces were seen", l.name, own.seen)
	}
}

func TestNothingIsShared(t *testing.T) {
	apart(requests(t), request(1))
	apart(cmds(t), cmd())
	for _, kind := range kinds() {
		apart(msgs(t), msg(kind))
	}
	one := room(whole())
	was := (&owner{t: t, taken: map[any]string{}}).take("it", reflect.ValueOf(one))
	wire.Same(one, room(whole()))
	wire.Same(one, one)
	if now := (&owner{t: t, taken: map[any]string{}}).take("it", reflect.ValueOf(one)); now != was {
		t.Error("Same turns what is handed in")
	}
}

// What is refused turns nothing either.
func TestWhatIsRefusedIsLeft(t *testing.T) {
	one := room(whole())
	was := (&owner{t: t, taken: map[any]string{}}).take("it", reflect.ValueOf(one))
	msgs(t).refuses(one)
	one.Kind = api.MsgBeat
	msgs(t).refuses(one)
	one.Kind = api.MsgTell
	if now := (&owner{t: t, taken: map[any]string{}}).take("it", reflect.ValueOf(one)); now != was {
		t.Error("what is refused is turned")
	}
	b := []byte("\x03\x06\x01\x0c\x01\x00\x01\x00\x01\x00\x02\x00\x01\x00")
	bytes := string(b)
	cmds(t).rejects(b)
	requests(t).rejects(b)
	msgs(t).rejects(b)
	if string(b) != bytes {
		t.Error("bytes that are refused are turned")
	}
}

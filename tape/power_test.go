package tape_test

import (
	"slices"
	"strings"
	"testing"

	"tailrace/api"
	"tailrace/reel"
	"tailrace/tape"
)

func TestTheExample(t *testing.T) {
	r := newReel(t, much)
	x := open(t, r)
	add(t, x, "a")
	r.Arm(5)
	add(t, x, "b")
	r.Crash(most)
	y := open(t, r)
	wantTape(t, y, 0, "a")
	wantReel(t, r, file{1, row(t, 1, "a")})
}

// Ta2

// step is what is done to a tape: a record more, or a list to begin with.
type step struct {
	begin bool
	list  []string
}

func one(s string) step      { return step{list: []string{s}} }
func begin(l ...string) step { return step{begin: true, list: l} }
func (s step) on(l []string) []string {
	if s.begin {
		return slices.Clone(s.list)
	}
	return append(slices.Clone(l), s.list...)
}

func (s step) do(t *testing.T, x *tape.Tape) {
	t.Helper()
	if s.begin {
		restart(t, x, s.list...)
		return
	}
	add(t, x, s.list[0])
}

// scripts are what the power is taken from, at each unit.
func scripts() [][]step {
	return [][]step{
		{one("a"), one("b"), one("")},
		{begin("x", "y"), one("z")},
		{one("a"), begin(), one("b"), begin("b", "c")},
		{one("\x00\x00\x00\x00"), begin("\x00\x00\x00\x01", "\x00\x00\x00\x00"), one("\x00\x00\x00\x03")},
		{begin("", "", ""), begin("p"), begin("q", "r")},
	}
}

// run opens a reel's tape and does a script, till the power is gone. It tells
// what the tape had ahead of the step in which it went, and what it had then.
func run(t *testing.T, r *reel.Reel, script []step) (was, is []string) {
	t.Helper()
	x := open(t, r)
	for _, s := range script {
		if r.Gone() {
			break
		}
		was, is = is, s.on(is)
		s.do(t, x)
	}
	if !r.Gone() {
		was = is
	}
	return was, is
}

// wantEither opens a tape, which must have one list or the other, and tells which.
func wantEither(t *testing.T, r *reel.Reel, was, is []string) []string {
	t.Helper()
	x := open(t, r)
	switch told(t, x) {
	case spelled(is...):
		return is
	case spelled(was...):
		return was
	}
	t.Fatalf("the records are %s; want %s or %s", told(t, x), spelled(was...), spelled(is...))
	return nil
}

// torn is a reel on which a script was done whose power went behind n units,
// and a crash kept so many; and what the tape may have.
func torn(t *testing.T, script []step, n, keep int) (r *reel.Reel, was, is []string) {
	t.Helper()
	r = newReel(t, much)
	r.Arm(n)
	was, is = run(t, r, script)
	r.Crash(keep)
	return r, was, is
}

// units is how many units a script takes, its Open too.
func units(t *testing.T, script []step) int {
	t.Helper()
	for n := 0; ; n++ {
		r := newReel(t, much)
		r.Arm(n)
		if run(t, r, script); !r.Gone() {
			return n
		}
	}
}

func TestThePowerGoesAtEachUnit(t *testing.T) {
	for _, script := range scripts() {
		for n := range units(t, script) + 2 {
			for _, keep := range []int{-1, 0, 1, 2, 5, 9, 12, 13, 14, 20, 30, most} {
				r, was, is := torn(t, script, n, keep)
				l := wantEither(t, r, was, is)
				// What was opened lasts, without a crash and behind one.
				wantReopened(t, r, l)
				r.Crash(0)
				wantReopened(t, r, l)
			}
		}
	}
}

func wantReopened(t *testing.T, r *reel.Reel, l []string) {
	t.Helper()
	x := open(t, r)
	if told(t, x) != spelled(l...) || len(r.Files()) != 1 {
		t.Fatalf("opened anew the records are %s, in the files %v; want %s", told(t, x), r.Files(), spelled(l...))
	}
}

func TestWhatIsAppendedBehindACrashLasts(t *testing.T) {
	script := scripts()[2]
	for n := range units(t, script) + 2 {
		r, was, is := torn(t, script, n, most)
		l := wantEither(t, r, was, is)
		x := open(t, r)
		add(t, x, "then")
		r.Crash(0)
		wantReopened(t, r, append(slices.Clone(l), "then"))
		x = open(t, r)
		restart(t, x, "anew")
		r.Crash(0)
		wantReopened(t, r, []string{"anew"})
	}
}

func TestThePowerGoesAlsoWhileItIsOpened(t *testing.T) {
	for _, script := range scripts()[1:4] {
		for n := range units(t, script) + 2 {
			for m := 0; ; m++ {
				r, was, is := torn(t, script, n, most)
				r.Arm(m)
				l := wantEither(t, r, was, is)
				went := r.Gone()
				r.Crash([]int{most, 0, 1}[m%3])
				wantReopened(t, r, l)
				if !went {
					break
				}
			}
		}
	}
}

func TestThePowerGoesAgainAndAgainWhileItIsOpened(t *testing.T) {
	script := []step{one("a"), begin("a", "b"), one("c")}
	for n := range units(t, script) + 1 {
		for stride := 1; stride <= 40; stride += 3 {
			r, was, is := torn(t, script, n, most)
			l := wantEither(t, r, was, is)
			r, _, _ = torn(t, script, n, most)
			// Each time the power lasts a little longer, till it lasts.
			for m := 0; ; m += stride {
				r.Arm(m)
				x, e := tape.Open(r)
				if e != api.OK || told(t, x) != spelled(l...) {
					t.Fatalf("Open, the power going behind %d: %v, error %d", m, x, e)
				}
				if !r.Gone() {
					break
				}
				r.Crash(most)
			}
			r.Crash(0)
			wantReopened(t, r, l)
		}
	}
}

func TestAListIsBegunWholeOrNotAtAll(t *testing.T) {
	whole := row(t, 3, "x", "y", "z")
	for n := range len(whole) + 2 {
		r := newReel(t, much)
		x := open(t, r)
		add(t, x, "a")
		r.Arm(n)
		restart(t, x, "x", "y", "z")
		r.Crash(most)
		// Not one of its records is seen till the last one's last byte is kept.
		if n < len(whole) {
			wantTape(t, open(t, r), 1, "a")
			wantReel(t, r, file{0, row(t, 0, "a")})
			continue
		}
		wantTape(t, open(t, r), 0, "x", "y", "z")
		wantReel(t, r, file{1, whole})
	}
}

func TestARecordIsAppendedWholeOrNotAtAll(t *testing.T) {
	whole := len(sealOf(t, []byte("bcd")))
	for n := range whole + 1 {
		r := newReel(t, much)
		x := open(t, r)
		add(t, x, "a")
		r.Arm(n)
		add(t, x, "bcd")
		r.Crash(most)
		y := open(t, r)
		switch {
		case n == 0:
			// Nothing came of it: the segment is clean.
			wantTape(t, y, 1, "a")
			wantReel(t, r, file{0, row(t, 0, "a")})
		case n < whole:
			wantTape(t, y, 0, "a")
			wantReel(t, r, file{1, row(t, 1, "a")})
		default:
			wantTape(t, y, 2, "a", "bcd")
			wantReel(t, r, file{0, row(t, 0, "a", "bcd")})
		}
	}
}

// model is what a tape and its reel have, as the words say it.
type model struct {
	list  []string
	base  int
	file  int
	bytes int
	room  int
}

func (m *model) append(s string) api.Errno {
	switch {
	case len(s) > api.MaxRecord:
		return api.ErrLong
	case m.bytes+wide+len(s) > m.room:
		return api.ErrFull
	}
	m.list = append(m.list, s)
	m.bytes += wide + len(s)
	return api.OK
}

func (m *model) restart(l []string) api.Errno {
	need := bare
	for _, s := range l {
		if len(s) > api.MaxRecord {
			return api.ErrLong
		}
		need += wide + len(s)
	}
	if m.bytes+need > m.room {
		return api.ErrFull
	}
	m.list, m.base, m.bytes = slices.Clone(l), len(l), need
	m.file++
	return api.OK
}

func wantModel(t *testing.T, m *model, r *reel.Reel, x *tape.Tape) {
	t.Helper()
	wantTape(t, x, len(m.list)-m.base, m.list...)
	wantReel(t, r, file{m.file, row(t, uint32(m.base), m.list...)})
	wantPending(t, r, 0)
	if r.Left() != m.room-m.bytes {
		t.Fatalf("Left is %d, want %d", r.Left(), m.room-m.bytes)
	}
}

func TestScriptsAgainstAModel(t *testing.T) {
	seed := uint32(1)
	next := func(n int) int {
		seed = seed*1664525 + 1013904223
		return int(seed>>8) % n
	}
	for round := range 300 {
		room := bare + next(400)
		r := newReel(t, room)
		x := open(t, r)
		m := &model{bytes: bare, room: room}
		for range 30 {
			switch next(8) {
			case 0:
				var l []string
				for range next(5) {
					l = append(l, strings.Repeat("r", next(20)))
				}
				if e, want := x.Restart(list(l...)), m.restart(l); e != want {
					t.Fatalf("round %d: Restart: error %d, want %d", round, e, want)
				}
			case 1:
				r.Crash(0)
				x = open(t, r)
			case 2:
				tooLong := strings.Repeat("t", api.MaxRecord+1)
				if e, want := x.Append([]byte(tooLong)), m.append(tooLong); e != want {
					t.Fatalf("round %d: Append: error %d, want %d", round, e, want)
				}
			default:
				s := strings.Repeat("s", next(30))
				if e, want := x.Append([]byte(s)), m.append(s); e != want {
					t.Fatalf("round %d: Append: error %d, want %d", round, e, want)
				}
			}
			wantModel(t, m, r, x)
		}
	}
}

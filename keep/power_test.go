package keep_test

import (
	"slices"
	"strings"
	"testing"

	"tailrace/api"
	"tailrace/keep"
	"tailrace/reel"
)

// state is what a keep has, as the words say it.
type state struct {
	note    string
	entries []string
}

func (s state) spelled() string { return spelled(s.note, s.entries...) }

// step is what is done to a keep, and what that makes of its state.
type step struct {
	do func(k *keep.Keep) api.Errno
	on func(s state) state
}

func adding(b string) step {
	return step{
		func(k *keep.Keep) api.Errno { return k.Add([]byte(b)) },
		func(s state) state { return state{s.note, append(slices.Clone(s.entries), b)} },
	}
}

func noting(b string) step {
	return step{
		func(k *keep.Keep) api.Errno { return k.Note([]byte(b)) },
		func(s state) state { return state{b, s.entries} },
	}
}

func clearing() step {
	return step{
		(*keep.Keep).Clear,
		func(s state) state { return state{s.note, nil} },
	}
}

func cutting(n int) step {
	return step{
		func(k *keep.Keep) api.Errno { return k.Cut(n) },
		func(s state) state { return state{s.note, s.entries[:min(n, len(s.entries))]} },
	}
}

// script is what is done ahead, while the power is on, and what it is taken
// from, at each unit.
type script struct {
	ahead []string // records of a tape
	steps []step
}

func scripts() []script {
	return []script{
		{nil, []step{adding("a"), adding("b"), cutting(1), adding(""), noting("n")}},
		{nil, []step{noting("n"), adding("a"), clearing(), noting(""), adding("b"), cutting(0)}},
		{[]string{"\x00a", "\x01n", "\x00b"}, []step{cutting(5), cutting(1), clearing(), clearing(), adding("\x02")}},
		// The tape is begun anew on the way.
		{times(grow-2, "\x01n"), []step{adding("a"), adding("b"), adding("c")}},
		{append(times(grow-4, "\x01n"), "\x00a", "\x00b", "\x00c"), []step{cutting(2), noting("m"), clearing()}},
		{append(times(grow-3, "\x02"), "\x00a", "\x00b"), []step{clearing(), adding("c")}},
		{append(times(grow-2, "\x00"), "\x01n"), []step{noting(""), cutting(3)}},
		{append(times(grow+3, "\x02"), "\x00a", "\x01n"), []step{cutting(0), adding("b")}},
	}
}

// start is a reel with what a script has ahead, and its state.
func (s script) start(t *testing.T) (*reel.Reel, state) {
	t.Helper()
	r := taped(t, s.ahead...)
	k := open(t, r)
	var l []string
	for _, b := range k.All() {
		l = append(l, string(b))
	}
	return r, state{string(k.Noted()), l}
}

// run opens a keep, and does a script's steps till the power is gone. It tells
// what was there ahead of the step in which it went, and what was there then.
func (s script) run(t *testing.T, r *reel.Reel, is state) (state, state) {
	t.Helper()
	k := open(t, r)
	was := is
	for _, x := range s.steps {
		if r.Gone() {
			break
		}
		was, is = is, x.on(is)
		wantErr(t, "a step", x.do(k), api.OK)
		if told(t, k) != is.spelled() {
			t.Fatalf("the keep has %s, want %s", told(t, k), is.spelled())
		}
	}
	if !r.Gone() {
		was = is
	}
	return was, is
}

// torn is a reel on which a script was done whose power went behind n units,
// and a crash kept so many; what its keep may have; and whether it went.
func (s script) torn(t *testing.T, n, kept int) (r *reel.Reel, was, is state, went bool) {
	t.Helper()
	r, is = s.start(t)
	r.Arm(n)
	was, is = s.run(t, r, is)
	went = r.Gone()
	r.Crash(kept)
	return r, was, is, went
}

// wantEither opens a keep, which must have one or the other, and tells which.
func wantEither(t *testing.T, r *reel.Reel, was, is state) state {
	t.Helper()
	k := open(t, r)
	switch told(t, k) {
	case is.spelled():
		return is
	case was.spelled():
		return was
	}
	t.Fatalf("the keep has %s; want %s or %s", told(t, k), was.spelled(), is.spelled())
	return state{}
}

func wantReopened(t *testing.T, r *reel.Reel, s state) {
	t.Helper()
	wantKeep(t, open(t, r), s.note, s.entries...)
}

func TestThePowerGoesAtEachUnit(t *testing.T) {
	for _, s := range scripts() {
		for n := 0; ; n++ {
			goes := false
			for _, kept := range []int{-1, 0, 1, 9, 12, most} {
				r, was, is, went := s.torn(t, n, kept)
				goes = goes || went
				have := wantEither(t, r, was, is)
				// What was opened lasts, without a crash and behind one.
				wantReopened(t, r, have)
				r.Crash(0)
				wantReopened(t, r, have)
			}
			if !goes {
				break
			}
		}
	}
}

func TestWhatWasToldDoneIsThere(t *testing.T) {
	for _, s := range scripts() {
		for done := range len(s.steps) + 1 {
			r, is := s.start(t)
			_, is = script{steps: s.steps[:done]}.run(t, r, is)
			if r.Pending() != 0 {
				t.Fatalf("behind %d steps %d units are not synced", done, r.Pending())
			}
			r.Crash(0)
			wantReopened(t, r, is)
		}
	}
}

func TestWhatIsDoneBehindACrashLasts(t *testing.T) {
	then := []step{adding("then"), noting("later"), cutting(1), adding("last")}
	for _, s := range scripts()[2:5] {
		for n := 0; ; n++ {
			r, was, is, went := s.torn(t, n, most)
			_, is = script{steps: then}.run(t, r, wantEither(t, r, was, is))
			r.Crash(0)
			wantReopened(t, r, is)
			if !went {
				break
			}
		}
	}
}

func TestThePowerGoesAlsoWhileItIsOpened(t *testing.T) {
	for _, s := range []script{
		{nil, []step{noting("n"), adding("a")}},
		{append(times(grow-2, "\x02"), "\x01n"), []step{adding("a")}},
	} {
		for n := 0; ; n++ {
			_, _, _, went := s.torn(t, n, most)
			for m := 0; ; m++ {
				r, was, is, _ := s.torn(t, n, most)
				r.Arm(m)
				have := wantEither(t, r, was, is)
				gone := r.Gone()
				r.Crash([]int{most, 0, 1}[m%3])
				wantReopened(t, r, have)
				if !gone {
					break
				}
			}
			if !went {
				break
			}
		}
	}
}

func TestThePowerGoesAgainAndAgain(t *testing.T) {
	s := scripts()[0]
	for stride := 1; stride <= 40; stride += 3 {
		r := newReel(t, much)
		var is state
		// Each time it lasts a little longer, and what is there then goes on.
		for n := 0; n < 200; n += stride {
			r.Arm(n)
			was, now := s.run(t, r, is)
			r.Crash(most)
			is = wantEither(t, r, was, now)
		}
		r.Crash(0)
		wantReopened(t, r, is)
	}
}

func TestBegunAnewItHasWhatItHadWhereverThePowerGoes(t *testing.T) {
	records := append(times(grow-3, "\x01n"), "\x00a", "\x00b")
	last := len(sealOf(t, []byte("\x00c")))
	anew := row(t, 4, "\x01n", "\x00a", "\x00b", "\x00c")
	for n := range last + len(anew) + 3 {
		r := taped(t, records...)
		k := open(t, r)
		r.Arm(n)
		add(t, k, "c")
		r.Crash(most)
		x := open(t, r)
		switch {
		case n < last:
			wantKeep(t, x, "n", "a", "b")
		case n < last+len(anew):
			wantKeep(t, x, "n", "a", "b", "c")
			wantReel(t, r, file{0, row(t, 0, append(slices.Clone(records), "\x00c")...)})
		default:
			wantKeep(t, x, "n", "a", "b", "c")
			wantReel(t, r, file{1, anew})
		}
	}
}

// model is a keep and its reel, as the words say them.
type model struct {
	state
	grown int
	file  int
	bytes int
	room  int
}

// append is a record of so many bytes more, and what comes of it then.
func (m *model) append(size int, then state) api.Errno {
	switch {
	case size > api.MaxRecord:
		return api.ErrLong
	case m.bytes+wide+size > m.room:
		return api.ErrFull
	}
	m.state = then
	m.bytes += wide + size
	m.grown++
	m.renew()
	return api.OK
}

func (m *model) renew() {
	need := bare
	if m.note != "" {
		need += wide + 1 + len(m.note)
	}
	for _, s := range m.entries {
		need += wide + 1 + len(s)
	}
	if m.grown >= grow && m.bytes+need <= m.room {
		m.grown, m.bytes = 0, need
		m.file++
	}
}

// act does one thing to a keep and to its model, by chance, and tells both errors.
func act(k *keep.Keep, m *model, next func(int) int) (e, want api.Errno) {
	b := strings.Repeat("b", next(12))
	if next(50) == 0 {
		b = strings.Repeat("t", api.MaxRecord)
	}
	switch next(10) {
	case 0:
		return k.Note([]byte(b)), m.append(1+len(b), state{b, m.entries})
	case 1:
		n := next(40) - 1
		e = k.Cut(n)
		switch {
		case n < 0:
			return e, api.ErrArg
		case n >= len(m.entries):
			return e, api.OK
		}
		return e, m.append(5, state{m.note, m.entries[:n]})
	case 2:
		if next(8) == 0 {
			return k.Clear(), m.append(1, state{m.note, nil})
		}
	}
	return k.Add([]byte(b)), m.append(1+len(b), state{m.note, append(slices.Clone(m.entries), b)})
}

func TestScriptsAgainstAModel(t *testing.T) {
	seed := uint32(1)
	next := func(n int) int {
		seed = seed*1664525 + 1013904223
		return int(seed>>8) % n
	}
	for round := range 60 {
		room := bare + next(3000)
		r := newReel(t, room)
		k := open(t, r)
		m := &model{bytes: bare, room: room}
		for range 250 {
			if e, want := act(k, m, next); e != want {
				t.Fatalf("round %d: error %d, want %d", round, e, want)
			}
			if next(6) == 0 {
				r.Crash(next(3))
				k = open(t, r)
			}
			wantKeep(t, k, m.note, m.entries...)
			if !slices.Equal(r.Files(), []int{m.file}) || r.Left() != room-m.bytes || r.Pending() != 0 {
				t.Fatalf("round %d: the files are %v, Left %d, Pending %d; want %d, %d", round, r.Files(), r.Left(), r.Pending(), m.file, room-m.bytes)
			}
		}
	}
}

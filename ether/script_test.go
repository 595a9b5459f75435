package ether_test

import (
	"fmt"
	"maps"
	"slices"
	"testing"

	"tailrace/api"
	"tailrace/ether"
)

// model is an ether in maps, by the words.
type model struct {
	bags map[[2]int][]api.Parcel
	cuts map[[2]int]bool
}

func newModel() *model { return &model{map[[2]int][]api.Parcel{}, map[[2]int]bool{}} }

func byNumbers(x, y [2]int) int { return 1000*(x[0]-y[0]) + x[1] - y[1] }

func (m *model) ether() api.Ether {
	var e api.Ether
	for _, p := range slices.SortedFunc(maps.Keys(m.bags), byNumbers) {
		e.Bags = append(e.Bags, bag(p[0], p[1], m.bags[p]...))
	}
	e.Cuts = slices.SortedFunc(maps.Keys(m.cuts), byNumbers)
	return e
}

func (m *model) count() int {
	n := 0
	for _, l := range m.bags {
		n += len(l)
	}
	return n
}

func (m *model) cut(from, to int) bool { return m.cuts[[2]int{from, to}] || m.cuts[[2]int{to, from}] }

func (m *model) put(from, to int, b string) {
	l, has := m.bags[[2]int{from, to}]
	if m.cut(from, to) || len(l) == api.MaxBag || !has && len(m.bags) == api.MaxBags {
		return
	}
	m.bags[[2]int{from, to}] = append(l, parcel(b))
}

func nodes(a, b int) bool { return a > 0 && a < 1000 && b > 0 && b < 1000 && a != b }

func (m *model) do(a api.Act) (string, bool) {
	way, back := [2]int{a.A, a.B}, [2]int{a.B, a.A}
	switch {
	case a.Kind == api.ActCut && nodes(a.A, a.B):
		delete(m.bags, way)
		delete(m.bags, back)
		m.cuts[[2]int{min(a.A, a.B), max(a.A, a.B)}] = true
	case a.Kind == api.ActMend:
		delete(m.cuts, way)
		delete(m.cuts, back)
	}
	l := m.bags[way]
	if len(l) == 0 {
		return "", false
	}
	n := a.N % len(l)
	if n < 0 {
		n += len(l)
	}
	told := string(l[n].B)
	switch a.Kind {
	case api.ActDeliver, api.ActDrop:
		m.bags[way] = slices.Concat(l[:n], l[n+1:])
		if len(l) == 1 {
			delete(m.bags, way)
		}
	case api.ActTwice:
		if len(l) < api.MaxBag {
			m.bags[way] = append(l, l[n])
		}
	case api.ActBend:
		if !l[n].Bent {
			m.bags[way] = slices.Clone(l)
			m.bags[way][n] = bent(string(bentPlainly(l[n].B, a.W)))
		}
	}
	if a.Kind != api.ActDeliver {
		return "", false
	}
	return told, true
}

// script is an ether and a model that go on together.
type script struct {
	t *testing.T
	e api.Ether
	m *model
	// what was put, and where it was bent, of each two nodes
	put  map[[2]int]map[string]bool
	bent map[[2]int]map[int]bool
	// how much was told, and of that how much was bent
	told, toldBent, lost int
}

func newScript(t *testing.T) *script {
	return &script{t: t, m: newModel(), put: map[[2]int]map[string]bool{}, bent: map[[2]int]map[int]bool{}}
}

// lets bytes go that are nobody else's.
func (s *script) lets(from, to, i, long int) {
	b := fmt.Sprint(from, ">", to, "#", i, "............................................")
	b = b[:min(len(b), 12+long)]
	before := s.m.count()
	s.m.put(from, to, b)
	if s.m.count() == before {
		s.lost++
	}
	way := [2]int{from, to}
	if s.put[way] == nil {
		s.put[way], s.bent[way] = map[string]bool{}, map[int]bool{}
	}
	s.put[way][b] = true
	e, code := ether.Put(s.e, from, to, []byte(b))
	s.e = e
	s.holds(code, "put", from, to)
}

func (s *script) does(a api.Act) {
	s.t.Helper()
	way := [2]int{a.A, a.B}
	if a.Kind == api.ActBend && s.bent[way] != nil {
		s.bent[way][a.W] = true
	}
	want, comes := s.m.do(a)
	e, b, came, code := ether.Do(s.e, a)
	s.e = e
	s.holds(code, a)
	if string(b) != want || came != comes {
		s.t.Fatalf("%+v tells %q, %t; want %q, %t", a, b, came, want, comes)
	}
	if came {
		s.explains(way, string(b))
	}
}

// explains, Et3: what is told was put from there to here, or is bent once of such.
func (s *script) explains(way [2]int, b string) {
	s.t.Helper()
	s.told++
	if s.put[way][b] {
		return
	}
	s.toldBent++
	for p := range s.put[way] {
		for w := range s.bent[way] {
			if len(p) == len(b) && string(ether.Bend([]byte(p), w)) == b {
				return
			}
		}
	}
	s.t.Fatalf("%q comes by %v, where nobody put it", b, way)
}

func (s *script) holds(code api.Errno, what ...any) {
	s.t.Helper()
	if code != api.OK || ether.Check(s.e) != api.OK || ether.Count(s.e) != s.m.count() || !same(s.e, s.m.ether()) || !ether.Same(s.e, s.m.ether()) {
		s.t.Fatalf("behind %v: error %d, %+v; want %+v", what, code, s.e, s.m.ether())
	}
}

// drains lets all come that is there, and mends what is cut.
func (s *script) drains(d *dice) {
	s.t.Helper()
	for len(s.e.Bags) > 0 {
		b := s.e.Bags[d.throw(len(s.e.Bags))]
		s.does(act(api.ActDeliver, b.From, b.To, d.throw(99), 0))
	}
	for len(s.e.Cuts) > 0 {
		c := s.e.Cuts[d.throw(len(s.e.Cuts))]
		s.does(act(api.ActMend, c[1], c[0], 0, 0))
	}
	if !same(s.e, api.Ether{}) {
		s.t.Errorf("%+v is left", s.e)
	}
}

// Et1, Et2, Et3: few nodes, each kind often, full bags, cuts and what is lost.
func TestScripts(t *testing.T) {
	for run := range 12 {
		d, s := dice(run), newScript(t)
		some := 2 + run%4
		for i := range 1500 {
			a, b := 1+d.throw(some), 1+d.throw(some)
			if a == b {
				b = 999
			}
			roll := d.throw(100)
			n, w := d.throw(200)-100, d.throw(1<<20)-1<<19
			switch {
			case roll < 50:
				s.lets(a, b, i, d.throw(30))
			case roll < 51:
				s.does(act(api.ActCut, a, b, n, w))
			case roll < 53:
				s.does(act(api.ActMend, a, b, n, w))
			default:
				s.does(act([]int{api.ActDeliver, api.ActBend, api.ActTwice, api.ActDeliver, api.ActBend, api.ActTwice, api.ActDrop, api.ActTick}[roll%8], a, b, n, w))
			}
		}
		s.drains(&d)
		if s.told < 50 || s.toldBent < 10 || s.lost == 0 {
			t.Errorf("run %d: %d were told, %d of them bent; %d were lost", run, s.told, s.toldBent, s.lost)
		}
	}
}

// Many nodes, up to 1024 bags and beyond.
func TestScriptOfManyBags(t *testing.T) {
	d, s := dice(77), newScript(t)
	for _, b := range bags(960) {
		s.m.bags[[2]int{b.From, b.To}] = b.L
		s.put[[2]int{b.From, b.To}], s.bent[[2]int{b.From, b.To}] = map[string]bool{string(b.L[0].B): true}, map[int]bool{}
	}
	s.e = s.m.ether()
	full := 0
	for i := range 500 {
		a, b := 1+d.throw(40), 1+d.throw(40)
		switch d.throw(40) {
		case 0:
			s.does(act(api.ActCut, a, b, 0, 0))
		case 1:
			s.does(act(api.ActMend, a, b, 0, 0))
		case 2:
			s.does(act(api.ActDeliver, a, b, i, 0))
		default:
			if a != b {
				s.lets(a, b, i, 0)
			}
		}
		if len(s.e.Bags) == api.MaxBags {
			full++
		}
	}
	if full < 50 || s.lost < 50 {
		t.Errorf("full %d times, %d lost", full, s.lost)
	}
	for range 50 {
		b := s.e.Bags[d.throw(len(s.e.Bags))]
		s.does(act(api.ActDeliver, b.From, b.To, d.throw(9), 0))
		b = s.e.Bags[d.throw(len(s.e.Bags))]
		s.does(act(api.ActCut, b.From, b.To, 0, 0))
	}
}

// All scripts of three acts about a few parcels, of two nodes.
func TestShortScripts(t *testing.T) {
	var steps []api.Act
	for _, kind := range kinds() {
		steps = append(steps, act(kind, 1, 2, 0, 0), act(kind, 1, 2, -1, 9))
	}
	steps = append(steps, act(0, 1, 2, 0, 0), act(api.ActCut, 2, 1, 0, 0), act(api.ActDeliver, 2, 1, 0, 0))
	n := len(steps)
	for i := range n * n * n {
		s := newScript(t)
		s.lets(1, 2, 1, 5)
		if i%2 == 0 {
			s.lets(2, 1, 1, 5)
		}
		s.does(steps[i%n])
		s.lets(1, 2, 2, 9)
		s.does(steps[i/n%n])
		s.does(steps[i/n/n])
	}
}

package tests

import (
	"slices"
	"testing"

	"loop.example/g00662/impl"
)

func TestSpaceCodes(t *testing.T) {
	if impl.SpAll != 1 || impl.SpBudget != 2 || impl.SpTokens != 3 || impl.MaxMarks != 400 {
		t.Error("a code or a limit is not the document's")
	}
}

func TestExplore(t *testing.T) {
	cases := []struct {
		what  string
		n     impl.Net
		start []int
		marks [][]int
		arcs  []impl.Arc
	}{
		{"no transition", impl.Net{Places: 2}, []int{3, 0}, [][]int{{3, 0}}, nil},
		{"no transition, no token", impl.Net{Places: 1, Trans: []impl.Trans{}}, []int{0}, [][]int{{0}}, nil},
		{"nothing enabled", impl.Net{Places: 2, Trans: []impl.Trans{{In: []int{0, 1}}}}, []int{9, 0}, [][]int{{9, 0}}, nil},
		{"a row", flowWith(3).Net, []int{1, 0, 0}, [][]int{{1, 0, 0}, {0, 0, 1}, {0, 1, 0}}, []impl.Arc{{From: 0, By: 0, To: 1}, {From: 1, By: 1, To: 2}}},
		{"to itself", impl.Net{Places: 1, Trans: []impl.Trans{{In: []int{0}, Out: []int{0}}}}, []int{1}, [][]int{{1}}, []impl.Arc{{From: 0, By: 0, To: 0}}},
		{"to itself, twice", impl.Net{Places: 1, Trans: []impl.Trans{{In: []int{0}, Out: []int{0}}, {In: []int{0}, Out: []int{0}}}}, []int{50}, [][]int{{50}}, []impl.Arc{{From: 0, By: 0, To: 0}, {From: 0, By: 1, To: 0}}},
		{"two to the same mark", impl.Net{Places: 2, Trans: []impl.Trans{{In: []int{0}, Out: []int{1}}, {In: []int{0}, Out: []int{1}}}}, []int{1, 0}, [][]int{{1, 0}, {0, 1}}, []impl.Arc{{From: 0, By: 0, To: 1}, {From: 0, By: 1, To: 1}}},
		{"round and back", impl.Net{Places: 2, Trans: []impl.Trans{{In: []int{1}, Out: []int{0}}, {In: []int{0}, Out: []int{1}}}}, []int{1, 0}, [][]int{{1, 0}, {0, 1}}, []impl.Arc{{From: 0, By: 1, To: 1}, {From: 1, By: 0, To: 0}}},
		{"met on two ways", gridNet(2), []int{1, 1}, [][]int{{1, 1}, {0, 1}, {1, 0}, {0, 0}}, []impl.Arc{{From: 0, By: 0, To: 1}, {From: 0, By: 1, To: 2}, {From: 1, By: 1, To: 3}, {From: 2, By: 0, To: 3}}},
		{"not in the order of marks", gridNet(1), []int{3}, [][]int{{3}, {2}, {1}, {0}}, []impl.Arc{{From: 0, By: 0, To: 1}, {From: 1, By: 0, To: 2}, {From: 2, By: 0, To: 3}}},
		{
			"all of one mark ahead of the next", impl.Net{Places: 4, Trans: []impl.Trans{{In: []int{1}, Out: []int{3}}, {In: []int{0}, Out: []int{1}}, {In: []int{0}, Out: []int{2}}}}, []int{1, 0, 0, 0},
			[][]int{{1, 0, 0, 0}, {0, 1, 0, 0}, {0, 0, 1, 0}, {0, 0, 0, 1}},
			[]impl.Arc{{From: 0, By: 1, To: 1}, {From: 0, By: 2, To: 2}, {From: 1, By: 0, To: 3}},
		},
		{"a place is emptied", impl.Net{Places: 2, Trans: []impl.Trans{{In: []int{0}, Reset: []int{1}}, {In: []int{1}}}}, []int{1, 2}, [][]int{{1, 2}, {0, 0}, {1, 1}, {1, 0}}, []impl.Arc{{From: 0, By: 0, To: 1}, {From: 0, By: 1, To: 2}, {From: 2, By: 0, To: 1}, {From: 2, By: 1, To: 3}, {From: 3, By: 0, To: 1}}},
		{"emptied and given at the limit", impl.Net{Places: 1, Trans: []impl.Trans{{In: []int{0}, Out: []int{0}, Reset: []int{0}}}}, []int{50}, [][]int{{50}, {1}}, []impl.Arc{{From: 0, By: 0, To: 1}, {From: 1, By: 0, To: 1}}},
	}
	for _, c := range cases {
		want := impl.Space{Marks: c.marks, Arcs: c.arcs}
		for _, budget := range []int{len(c.marks), len(c.marks) + 1, impl.MaxMarks} {
			if s, code, ok := impl.Explore(c.n, c.start, budget); !ok || code != impl.SpAll || !sameSpace(s, want) {
				t.Errorf("%s, budget %d: %v %v %v", c.what, budget, s, code, ok)
			}
		}
		for budget := 1; budget < len(c.marks); budget++ {
			checkOver(t, c.what, c.n, c.start, budget, impl.SpBudget)
		}
	}
}

// checkOver fails where a space is told of which a code is to be told, or something of what is in it.
func checkOver(t *testing.T, what string, n impl.Net, start []int, budget int, want int) {
	t.Helper()
	if s, code, ok := impl.Explore(n, start, budget); !ok || code != want || !sameSpace(s, impl.Space{}) {
		t.Errorf("%s, budget %d: %v %v %v, not %d", what, budget, s, code, ok, want)
	}
	zeroBeyond(t, what, n, start, budget, start)
}

// The greatest spaces: just MaxMarks marks, and one more.
func TestExploreMaxMarks(t *testing.T) {
	for _, start := range [][]int{{19, 19}, {7, 49}, {49, 7}, {1, 1, 3, 24}, {3, 3, 4, 4}} {
		n := gridNet(len(start))
		s, code, ok := impl.Explore(n, start, impl.MaxMarks)
		if !ok || code != impl.SpAll || len(s.Marks) != impl.MaxMarks {
			t.Fatalf("from %v: %d marks, %v %v", start, len(s.Marks), code, ok)
		}
		checkSpace(t, n, start, impl.MaxMarks)
		checkOver(t, "one too few", n, start, impl.MaxMarks-1, impl.SpBudget)
		// Behind one step more all the same follows, so there is one mark more.
		late := impl.Net{Places: n.Places + 2, Trans: []impl.Trans{{In: []int{n.Places}, Out: []int{n.Places + 1}}}}
		for _, tr := range n.Trans {
			late.Trans = append(late.Trans, impl.Trans{In: append(slices.Clone(tr.In), n.Places+1), Out: []int{n.Places + 1}})
		}
		checkOver(t, "one mark more than MaxMarks", late, append(slices.Clone(start), 1, 0), impl.MaxMarks, impl.SpBudget)
		start[0]--
		checkSpace(t, late, append(slices.Clone(start), 1, 0), impl.MaxMarks)
	}
}

// As many marks and as many transitions as there may be, most of them enabled in each mark.
func TestExploreMostArcs(t *testing.T) {
	n := gridNet(2)
	n.Places = 3
	for len(n.Trans) < impl.MaxTrans {
		n.Trans = append(n.Trans, impl.Trans{In: []int{2}, Out: []int{2}})
	}
	start := []int{19, 19, 1}
	loops := impl.MaxMarks * (impl.MaxTrans - 2)
	if s, code, ok := impl.Explore(n, start, impl.MaxMarks); !ok || code != impl.SpAll || len(s.Marks) != impl.MaxMarks || len(s.Arcs) != loops+2*19*20 {
		t.Errorf("%d marks, %d arcs, %v %v", len(s.Marks), len(s.Arcs), code, ok)
	}
	checkSpace(t, n, start, impl.MaxMarks)
}

// What would be too many tokens counts ahead of what would be too many marks, at the same firing alone.
func TestExploreTokens(t *testing.T) {
	full := impl.MaxTokens
	cases := []struct {
		what   string
		n      impl.Net
		start  []int
		budget int
		code   int
	}{
		{"up to the limit, then nothing", impl.Net{Places: 2, Trans: []impl.Trans{{In: []int{0}, Out: []int{1}}}}, []int{1, full - 1}, 2, impl.SpAll},
		{"up to the limit, no room", impl.Net{Places: 2, Trans: []impl.Trans{{In: []int{0}, Out: []int{1}}}}, []int{1, full - 1}, 1, impl.SpBudget},
		{"beyond the limit at once", impl.Net{Places: 2, Trans: []impl.Trans{{In: []int{0}, Out: []int{1}}}}, []int{1, full}, 9, impl.SpTokens},
		{"beyond the limit at once, no room", impl.Net{Places: 2, Trans: []impl.Trans{{In: []int{0}, Out: []int{1}}}}, []int{1, full}, 1, impl.SpTokens},
		{"beyond the limit at the second mark", impl.Net{Places: 2, Trans: []impl.Trans{{In: []int{0}, Out: []int{1}}}}, []int{2, full - 1}, 9, impl.SpTokens},
		{"beyond the limit at the second mark, no room", impl.Net{Places: 2, Trans: []impl.Trans{{In: []int{0}, Out: []int{1}}}}, []int{2, full - 1}, 2, impl.SpTokens},
		{"no room ahead of the limit", impl.Net{Places: 2, Trans: []impl.Trans{{In: []int{0}, Out: []int{1}}}}, []int{2, full - 1}, 1, impl.SpBudget},
		{"grows up to the limit", growNet(2, 1), []int{1, 0}, full + 1, impl.SpTokens},
		{"grows, no room for the limit", growNet(2, 1), []int{1, 0}, full, impl.SpBudget},
		{"grows, all the room there is", growNet(2, 1), []int{1, 0}, impl.MaxMarks, impl.SpTokens},
		{"grows at the last place", growNet(impl.MaxPlaces, impl.MaxPlaces-1), append([]int{1}, filled(impl.MaxPlaces-1, 48)...), 3, impl.SpTokens},
		{"grows at the last place, no room", growNet(impl.MaxPlaces, impl.MaxPlaces-1), append([]int{1}, filled(impl.MaxPlaces-1, 48)...), 2, impl.SpBudget},
		{"a place of its own is full", impl.Net{Places: 1, Trans: []impl.Trans{{In: []int{0}, Out: []int{0}}}}, []int{full}, 1, impl.SpAll},
		{"a full place is emptied first", impl.Net{Places: 2, Trans: []impl.Trans{{In: []int{0}, Out: []int{1}, Reset: []int{1}}}}, []int{1, full}, 2, impl.SpAll},
		{"another one is emptied", impl.Net{Places: 3, Trans: []impl.Trans{{In: []int{0}, Out: []int{1}, Reset: []int{2}}}}, []int{1, full, full}, 2, impl.SpTokens},
		{"what is full and not enabled", impl.Net{Places: 2, Trans: []impl.Trans{{In: []int{0}, Out: []int{1}}}}, []int{0, full}, 1, impl.SpAll},
		// The first transition that is in the way decides, whichever way that is.
		{"no room at the first, tokens at the second", impl.Net{Places: 2, Trans: []impl.Trans{{In: []int{0}}, {In: []int{0}, Out: []int{1}}}}, []int{1, full}, 1, impl.SpBudget},
		{"tokens at the first, no room at the second", impl.Net{Places: 2, Trans: []impl.Trans{{In: []int{0}, Out: []int{1}}, {In: []int{0}}}}, []int{1, full}, 1, impl.SpTokens},
		{"room at the first, tokens at the second", impl.Net{Places: 2, Trans: []impl.Trans{{In: []int{0}}, {In: []int{0}, Out: []int{1}}}}, []int{1, full}, 2, impl.SpTokens},
		{"the first mark's second transition ahead of the second mark's first", impl.Net{Places: 3, Trans: []impl.Trans{{In: []int{1}, Out: []int{2}}, {In: []int{0}, Out: []int{1}}, {In: []int{0}}}}, []int{1, 0, full}, 2, impl.SpBudget},
		{"a mark that is there already needs no room", impl.Net{Places: 2, Trans: []impl.Trans{{In: []int{0}, Out: []int{1}}, {In: []int{1}, Out: []int{0}}, {In: []int{0}, Out: []int{0}}}}, []int{1, 0}, 2, impl.SpAll},
		{"a mark that is there already, and then tokens", impl.Net{Places: 2, Trans: []impl.Trans{{In: []int{0}, Out: []int{0}}, {In: []int{0}, Out: []int{0, 1}}}}, []int{1, full}, 1, impl.SpTokens},
	}
	for _, c := range cases {
		if c.code != impl.SpAll {
			checkOver(t, c.what, c.n, c.start, c.budget, c.code)
			continue
		}
		if _, code, ok := impl.Explore(c.n, c.start, c.budget); !ok || code != impl.SpAll {
			t.Errorf("%s: %v %v", c.what, code, ok)
		}
		checkSpace(t, c.n, c.start, c.budget)
	}
}

// checkSpace holds all that is told of a space against the document's words; the arguments are as said.
func checkSpace(t *testing.T, n impl.Net, start []int, budget int) int {
	t.Helper()
	want, is := explorePlainly(n, start, budget)
	s, code, ok := impl.Explore(n, start, budget)
	if !ok || code != is || !sameSpace(s, want) {
		t.Fatalf("Explore of %v from %v, budget %d: %v %v %v, not %v %v", n, start, budget, s, code, ok, want, is)
	}
	if is != impl.SpAll {
		zeroBeyond(t, "a space that is not told whole", n, start, budget, start)
		return is
	}
	first, okFirst := firstDeadPlainly(n, want)
	if m, ok := impl.FirstDead(n, start, budget); ok != okFirst || !slices.Equal(m, first) {
		t.Fatalf("FirstDead of %v from %v: %v %v", n, start, m, ok)
	}
	if l, ok := impl.DeadTrans(n, start, budget); !ok || !slices.Equal(l, deadTransPlainly(n, want)) {
		t.Fatalf("DeadTrans of %v from %v: %v %v", n, start, l, ok)
	}
	for p := range n.Places {
		if k, ok := impl.BoundOf(n, start, budget, p); !ok || k != boundPlainly(want, p) {
			t.Fatalf("BoundOf %d of %v from %v: %v %v", p, n, start, k, ok)
		}
	}
	if live, ok := impl.IsLive(n, start, budget); !ok || live != livePlainly(n, want) {
		t.Fatalf("IsLive of %v from %v: %v %v", n, start, live, ok)
	}
	return is
}

// checkMark holds all that is told of a mark and a whole space against the document's words.
func checkMark(t *testing.T, n impl.Net, s impl.Space, m []int) {
	t.Helper()
	start, budget := s.Marks[0], len(s.Marks)
	way, okWay := wayPlainly(s, m)
	if l, ok := impl.WayTo(n, start, budget, m); ok != okWay || !slices.Equal(l, way) {
		t.Fatalf("WayTo %v of %v from %v: %v %v, not %v %v", m, n, start, l, ok, way, okWay)
	}
	if is, ok := impl.CanCome(n, start, budget, m); !ok || is != (numberPlainly(s, m) >= 0) {
		t.Fatalf("CanCome %v of %v from %v: %v %v", m, n, start, is, ok)
	}
	if is, ok := impl.IsHome(n, start, budget, m); !ok || is != homePlainly(s, m) {
		t.Fatalf("IsHome %v of %v from %v: %v %v", m, n, start, is, ok)
	}
}

// All nets with up to two transitions of one place, and with one of two, from all marks of few tokens and of nearly too many.
func TestAllSmallSpaces(t *testing.T) {
	nets := []impl.Net{{Places: 1}, {Places: 2}}
	for _, a := range transOf(1) {
		nets = append(nets, impl.Net{Places: 1, Trans: []impl.Trans{a}})
		for _, b := range transOf(1) {
			nets = append(nets, impl.Net{Places: 1, Trans: []impl.Trans{a, b}})
		}
	}
	for _, a := range transOf(2) {
		nets = append(nets, impl.Net{Places: 2, Trans: []impl.Trans{a}})
	}
	for _, n := range nets {
		starts := marksUpTo(n.Places, 3)
		for _, m := range marksUpTo(n.Places, 2) {
			for p := range m {
				m[p] = impl.MaxTokens - m[p]
			}
			starts = append(starts, m)
		}
		for _, start := range starts {
			for _, budget := range []int{1, 2, 3, 4, 50, impl.MaxMarks} {
				checkSpace(t, n, start, budget)
			}
			s, code := explorePlainly(n, start, impl.MaxMarks)
			if code != impl.SpAll {
				continue
			}
			for _, m := range marksUpTo(n.Places, 2) {
				checkMark(t, n, s, m)
			}
		}
	}
}

// All nets with two transitions of two places, from some marks each.
func TestAllSmallPairs(t *testing.T) {
	d := dice(41)
	codes := map[int]int{}
	for _, a := range transOf(2) {
		for _, b := range transOf(2) {
			n := impl.Net{Places: 2, Trans: []impl.Trans{a, b}}
			for range 3 {
				start := someSpaceMark(&d, 2)
				codes[checkSpace(t, n, start, 1+d.below(60))]++
				s, code := explorePlainly(n, start, impl.MaxMarks)
				if code == impl.SpAll {
					checkMark(t, n, s, someMark(&d, 2, 2))
				}
			}
		}
	}
	for _, code := range []int{impl.SpAll, impl.SpBudget, impl.SpTokens} {
		if codes[code] < 100 {
			t.Errorf("only %d of code %d", codes[code], code)
		}
	}
}

// someSpaceNet is a net whose transitions mostly give no more than they take, so that many of its spaces have an end; in some of them all can be fired back.
func someSpaceNet(d *dice, places int, trans int) impl.Net {
	n := someNet(d, places, trans, d.below(2) == 0)
	for i, t := range n.Trans {
		if d.below(12) > 0 && len(t.Out) > len(t.In) {
			n.Trans[i].Out = t.Out[:len(t.In)]
		}
	}
	if d.below(3) > 0 {
		return n
	}
	for i, t := range n.Trans[:trans/2] {
		if len(t.Out) == 0 {
			t.Out = []int{d.below(places)}
		}
		n.Trans[i] = impl.Trans{In: t.In, Out: t.Out}
		n.Trans[trans-1-i] = impl.Trans{In: t.Out, Out: t.In}
	}
	return n
}

// someSpaceMark has few tokens, or at some places nearly too many.
func someSpaceMark(d *dice, places int) []int {
	m := someMark(d, places, 1+d.below(2))
	if d.below(4) == 0 {
		m[d.below(places)] = impl.MaxTokens - d.below(3)
	}
	return m
}

// Promise 4 and all the rest, of nets of all sizes.
func TestSpacesOfAllKinds(t *testing.T) {
	d := dice(4)
	codes := map[int]int{}
	marks, live, home, dead, far := 0, 0, 0, 0, 0
	for range 1500 {
		places := 1 + d.below(impl.MaxPlaces)
		n := someSpaceNet(&d, places, d.below(impl.MaxTrans+1))
		start := someSpaceMark(&d, places)
		budget := []int{1, 1 + d.below(20), 1 + d.below(impl.MaxMarks), impl.MaxMarks}[d.below(4)]
		code := checkSpace(t, n, start, budget)
		codes[code]++
		if code != impl.SpAll {
			continue
		}
		s, _ := explorePlainly(n, start, budget)
		marks += len(s.Marks)
		checkPromise4(t, n, s)
		for _, m := range [][]int{start, s.Marks[len(s.Marks)-1], s.Marks[d.below(len(s.Marks))], someMark(&d, places, 1)} {
			checkMark(t, n, s, m)
			if is, _ := impl.IsHome(n, start, budget, m); is && len(s.Marks) > 1 {
				home++
			}
			if l, _ := impl.WayTo(n, start, budget, m); len(l) > 2 {
				far++
			}
		}
		if is, _ := impl.IsLive(n, start, budget); is && len(n.Trans) > 0 {
			live++
		}
		if _, ok := impl.FirstDead(n, start, budget); ok && len(s.Marks) > 1 {
			dead++
		}
	}
	if marks < 5000 || live < 10 || home < 100 || dead < 100 || far < 100 {
		t.Errorf("only %d marks, %d live, %d home, %d with a dead mark, %d far", marks, live, home, dead, far)
	}
	for _, code := range []int{impl.SpAll, impl.SpBudget, impl.SpTokens} {
		if codes[code] < 50 {
			t.Errorf("only %d of code %d", codes[code], code)
		}
	}
}

// checkPromise4 holds a space that Explore tells whole against the promise's words, by what fires.
func checkPromise4(t *testing.T, n impl.Net, s impl.Space) {
	t.Helper()
	start, budget := s.Marks[0], len(s.Marks)
	told, code, ok := impl.Explore(n, start, budget)
	if !ok || code != impl.SpAll {
		t.Fatalf("Explore of %v from %v: %v %v", n, start, code, ok)
	}
	arcs := 0
	for i, m := range told.Marks {
		l, _ := impl.Enabled(n, m)
		for _, by := range l {
			behind, ok := impl.Fire(n, m, by)
			to := numberPlainly(told, behind)
			if !ok || to < 0 {
				t.Fatalf("%v from %v: %d fires out of the space in %v", n, start, by, m)
			}
			if arcs >= len(told.Arcs) || told.Arcs[arcs] != (impl.Arc{From: i, By: by, To: to}) {
				t.Fatalf("%v from %v: the arc %d is not that of %d in %v", n, start, arcs, by, m)
			}
			arcs++
		}
		way, ok := impl.WayTo(n, start, budget, m)
		behind, many, okAll := impl.FireAll(n, start, way)
		if !ok || !okAll || many != len(way) || !slices.Equal(behind, m) {
			t.Fatalf("%v from %v: the way %v %v does not lead to %v", n, start, way, ok, m)
		}
	}
	if arcs != len(told.Arcs) {
		t.Fatalf("%v from %v: %d arcs, %d fire", n, start, len(told.Arcs), arcs)
	}
}

func TestWayTo(t *testing.T) {
	// Place 5 is come to by 0 3 and by 1 2, place 6 by 5 alone and by what is longer and less.
	fork := impl.Net{Places: 7, Trans: []impl.Trans{
		{In: []int{0}, Out: []int{3}},
		{In: []int{0}, Out: []int{2}},
		{In: []int{2}, Out: []int{5}},
		{In: []int{3}, Out: []int{5}},
		{In: []int{3}, Out: []int{6}},
		{In: []int{0}, Out: []int{6}},
		{In: []int{5}, Out: []int{0}},
	}}
	on := func(place int) []int { return oneOn(impl.Flow{Net: fork}, place, true) }
	cases := []struct {
		what    string
		n       impl.Net
		start   []int
		m, want []int
		ok      bool
	}{
		{"start itself", fork, on(0), on(0), nil, true},
		{"start itself, no transition", impl.Net{Places: 2}, []int{1, 0}, []int{1, 0}, nil, true},
		{"start itself, that fires to itself", loopNet(), []int{1}, []int{1}, nil, true},
		{"one step", fork, on(0), on(3), []int{0}, true},
		{"two as short", fork, on(0), on(5), []int{0, 3}, true},
		{"a shorter one, though greater", fork, on(0), on(6), []int{5}, true},
		{"from elsewhere", fork, on(5), on(6), []int{6, 5}, true},
		{"round to the one ahead", fork, on(3), on(2), []int{3, 6, 1}, true},
		{"not come to", fork, on(0), on(1), nil, false},
		{"not come to from there", fork, on(6), on(0), nil, false},
		{"no transition, another mark", impl.Net{Places: 2}, []int{1, 0}, []int{0, 1}, nil, false},
		{"fewer tokens", fork, on(0), filled(7, 0), nil, false},
		{"any order is as short", gridNet(3), []int{1, 2, 1}, []int{0, 0, 0}, []int{0, 1, 1, 2}, true},
		{"two transitions alike", impl.Net{Places: 1, Trans: []impl.Trans{{In: []int{0}}, {In: []int{0}}}}, []int{3}, []int{0}, []int{0, 0, 0}, true},
	}
	for _, c := range cases {
		if l, ok := impl.WayTo(c.n, c.start, impl.MaxMarks, c.m); ok != c.ok || !slices.Equal(l, c.want) {
			t.Errorf("%s: %v %v", c.what, l, ok)
		}
	}
}

// A way of MaxSeq steps is told, one of one step more is not, though the mark is come to.
func TestWayToAtItsLimit(t *testing.T) {
	n, fuel := ringNet(), 40
	start := ringMark(fuel, 0)
	for steps := range 2*fuel + 2 {
		m := ringMark(fuel, steps)
		way, ok := impl.WayTo(n, start, impl.MaxMarks, m)
		if ok != (steps <= impl.MaxSeq) || ok && len(way) != steps || !ok && len(way) != 0 {
			t.Errorf("%d steps: %v %v", steps, way, ok)
		}
		if behind, many, all := impl.FireAll(n, start, way); ok && (!all || many != steps || !slices.Equal(behind, m)) {
			t.Errorf("%d steps: %v leads to %v", steps, way, behind)
		}
		if is, ok := impl.CanCome(n, start, impl.MaxMarks, m); !is || !ok {
			t.Errorf("%d steps: come to %v %v", steps, is, ok)
		}
	}
}

func TestCanCome(t *testing.T) {
	n := ringNet()
	start := []int{1, 0, 1}
	for _, m := range marksUpTo(3, 2) {
		want := slices.ContainsFunc([][]int{{1, 0, 1}, {0, 1, 1}, {1, 0, 0}, {0, 1, 0}}, func(x []int) bool { return slices.Equal(x, m) })
		for _, budget := range []int{4, 5, impl.MaxMarks} {
			if is, ok := impl.CanCome(n, start, budget, m); is != want || !ok {
				t.Errorf("%v, budget %d: %v %v", m, budget, is, ok)
			}
		}
		if is, ok := impl.CanCome(n, start, 3, m); is || ok {
			t.Errorf("%v, a budget that is too small: %v %v", m, is, ok)
		}
	}
}

func TestFirstDead(t *testing.T) {
	cases := []struct {
		what        string
		n           impl.Net
		start, want []int
		ok          bool
	}{
		{"no transition", impl.Net{Places: 2}, []int{0, 3}, []int{0, 3}, true},
		{"start itself", gridNet(2), []int{0, 0}, []int{0, 0}, true},
		{"start itself, with tokens", impl.Net{Places: 2, Trans: []impl.Trans{{In: []int{0, 1}}}}, []int{50, 0}, []int{50, 0}, true},
		{"the end of a row", flowWith(3).Net, []int{1, 0, 0}, []int{0, 1, 0}, true},
		{"none, by a ring", impl.Net{Places: 2, Trans: []impl.Trans{{In: []int{0}, Out: []int{1}}, {In: []int{1}, Out: []int{0}}}}, []int{1, 0}, nil, false},
		{"none, by a step to itself", loopNet(), []int{1}, nil, false},
		{"the first of two that are met together", impl.Net{Places: 3, Trans: []impl.Trans{{In: []int{0}, Out: []int{2}}, {In: []int{0}, Out: []int{1}}}}, []int{1, 0, 0}, []int{0, 0, 1}, true},
		{"the nearer one, though of a later transition", impl.Net{Places: 4, Trans: []impl.Trans{{In: []int{0}, Out: []int{1}}, {In: []int{1}, Out: []int{2}}, {In: []int{0}, Out: []int{3}}}}, []int{1, 0, 0, 0}, []int{0, 0, 0, 1}, true},
		{"some are dead and some are not", impl.Net{Places: 3, Trans: []impl.Trans{{In: []int{0}, Out: []int{1}}, {In: []int{1}, Out: []int{0}}, {In: []int{1}, Out: []int{2}}}}, []int{1, 0, 0}, []int{0, 0, 1}, true},
	}
	for _, c := range cases {
		if m, ok := impl.FirstDead(c.n, c.start, impl.MaxMarks); ok != c.ok || !slices.Equal(m, c.want) {
			t.Errorf("%s: %v %v", c.what, m, ok)
		}
	}
}

func TestDeadTrans(t *testing.T) {
	three := []impl.Trans{{In: []int{0}, Out: []int{1}}, {In: []int{1}, Out: []int{2}}, {In: []int{2}, Out: []int{0}}}
	cases := []struct {
		what  string
		trans []impl.Trans
		start []int
		want  []int
	}{
		{"no transition", nil, []int{1, 0, 0}, nil},
		{"none is dead", three, []int{0, 1, 0}, nil},
		{"all are dead", three, []int{0, 0, 0}, []int{0, 1, 2}},
		{"the first", three[:2], []int{0, 1, 0}, []int{0}},
		{"the last", []impl.Trans{three[0], three[0], {In: []int{0, 1}}}, []int{1, 0, 0}, []int{2}},
		{"the one in the midst", []impl.Trans{three[0], {In: []int{0, 1}}, three[1]}, []int{1, 0, 0}, []int{1}},
		{"the first and the last", []impl.Trans{{In: []int{0, 2}}, three[0], {In: []int{1, 2}}}, []int{1, 0, 0}, []int{0, 2}},
		{"one that could fire, but for an emptied place", []impl.Trans{{In: []int{0}, Out: []int{1}, Reset: []int{2}}, {In: []int{1, 2}}}, []int{1, 0, 5}, []int{1}},
		{"one that fires to the same mark alone", []impl.Trans{{In: []int{0}, Out: []int{0}}}, []int{1, 0, 0}, nil},
		{"one that fires beside another one alike", []impl.Trans{three[0], three[0]}, []int{1, 0, 0}, nil},
	}
	for _, c := range cases {
		n := impl.Net{Places: 3, Trans: c.trans}
		if l, ok := impl.DeadTrans(n, c.start, impl.MaxMarks); !ok || !slices.Equal(l, c.want) {
			t.Errorf("%s: %v %v", c.what, l, ok)
		}
	}
	last := impl.Net{Places: 2, Trans: append(slices.Repeat([]impl.Trans{{In: []int{1}}}, impl.MaxTrans-1), impl.Trans{In: []int{0}})}
	if l, ok := impl.DeadTrans(last, []int{2, 0}, impl.MaxMarks); !ok || !slices.Equal(l, numbersTo(impl.MaxTrans-1)) {
		t.Error("the last of MaxTrans fires alone", l, ok)
	}
	if l, ok := impl.DeadTrans(last, []int{0, 2}, impl.MaxMarks); !ok || !slices.Equal(l, []int{impl.MaxTrans - 1}) {
		t.Error("the last of MaxTrans is dead alone", l, ok)
	}
}

func TestBoundOf(t *testing.T) {
	n := impl.Net{Places: 5, Trans: []impl.Trans{{In: []int{0}, Out: []int{1}}, {In: []int{1}, Out: []int{2}, Reset: []int{3}}}}
	start := []int{3, 0, 1, 50, 0}
	for p, want := range []int{3, 3, 4, 50, 0} {
		if k, ok := impl.BoundOf(n, start, impl.MaxMarks, p); k != want || !ok {
			t.Errorf("place %d: %v %v", p, k, ok)
		}
	}
	for _, p := range wrongPlaces(5) {
		if k, ok := impl.BoundOf(n, start, impl.MaxMarks, p); k != 0 || ok {
			t.Errorf("%d is no place: %v %v", p, k, ok)
		}
	}
	row := rowFlow(numbersTo(impl.MaxPlaces)...)
	from, _ := impl.StartOf(row)
	for p := range impl.MaxPlaces {
		if k, ok := impl.BoundOf(row.Net, from, impl.MaxPlaces, p); k != 1 || !ok {
			t.Errorf("place %d of a row: %v %v", p, k, ok)
		}
	}
	for _, p := range wrongPlaces(impl.MaxPlaces) {
		if k, ok := impl.BoundOf(row.Net, from, impl.MaxPlaces, p); k != 0 || ok {
			t.Errorf("%d is no place of a row: %v %v", p, k, ok)
		}
	}
	if k, ok := impl.BoundOf(impl.Net{Places: 1}, []int{50}, 1, 0); k != 50 || !ok {
		t.Error("start alone", k, ok)
	}
}

func TestIsLive(t *testing.T) {
	ring := []impl.Trans{{In: []int{0}, Out: []int{1}}, {In: []int{1}, Out: []int{2}}, {In: []int{2}, Out: []int{0}}}
	cases := []struct {
		what  string
		trans []impl.Trans
		start []int
		want  bool
	}{
		{"no transition", nil, []int{1, 0, 0, 0}, true},
		{"no transition, no token", nil, []int{0, 0, 0, 0}, true},
		{"a ring", ring, []int{1, 0, 0, 0}, true},
		{"a ring from elsewhere", ring, []int{0, 0, 2, 0}, true},
		{"a ring without a token", ring, []int{0, 0, 0, 1}, false},
		{"a row", ring[:2], []int{1, 0, 0, 0}, false},
		{"to itself", []impl.Trans{{In: []int{0}, Out: []int{0}}}, []int{1, 0, 0, 0}, true},
		{"a way out of the ring", append(slices.Clone(ring), impl.Trans{In: []int{1}, Out: []int{3}}), []int{1, 0, 0, 0}, false},
		{"a way out into a loop of its own", append(slices.Clone(ring), impl.Trans{In: []int{1}, Out: []int{3}}, impl.Trans{In: []int{3}, Out: []int{3}}), []int{1, 0, 0, 0}, false},
		{"a way out and back", append(slices.Clone(ring), impl.Trans{In: []int{1}, Out: []int{3}}, impl.Trans{In: []int{3}, Out: []int{0}}), []int{1, 0, 0, 0}, true},
		{"a way into the ring, gone once", append(slices.Clone(ring), impl.Trans{In: []int{3}, Out: []int{0}}), []int{0, 0, 0, 1}, false},
		{"a ring, come to from a start that does not come back", append(slices.Clone(ring), impl.Trans{In: []int{0}, Reset: []int{3}, Out: []int{1}}), []int{1, 0, 0, 2}, true},
		{"a ring and one that never fires", append(slices.Clone(ring), impl.Trans{In: []int{0, 3}}), []int{1, 0, 0, 0}, false},
		{"a step that takes the last token", append(slices.Clone(ring), impl.Trans{In: []int{2}}), []int{1, 0, 0, 0}, false},
	}
	for _, c := range cases {
		n := impl.Net{Places: 4, Trans: c.trans}
		if is, ok := impl.IsLive(n, c.start, impl.MaxMarks); is != c.want || !ok {
			t.Errorf("%s: %v %v", c.what, is, ok)
		}
	}
}

func TestIsHome(t *testing.T) {
	ring := impl.Net{Places: 4, Trans: []impl.Trans{{In: []int{0}, Out: []int{1}}, {In: []int{1}, Out: []int{0}}}}
	out := impl.Net{Places: 4, Trans: append(slices.Clone(ring.Trans), impl.Trans{In: []int{1}, Out: []int{2}})}
	two := impl.Net{Places: 4, Trans: append(slices.Clone(out.Trans), impl.Trans{In: []int{0}, Out: []int{3}})}
	cases := []struct {
		what     string
		n        impl.Net
		start, m []int
		want     bool
	}{
		{"no transition, start", impl.Net{Places: 1}, []int{2}, []int{2}, true},
		{"no transition, another mark", impl.Net{Places: 1}, []int{2}, []int{1}, false},
		{"a ring, start", ring, []int{1, 0, 0, 0}, []int{1, 0, 0, 0}, true},
		{"a ring, the other one", ring, []int{1, 0, 0, 0}, []int{0, 1, 0, 0}, true},
		{"a ring, none of its marks", ring, []int{1, 0, 0, 0}, []int{0, 0, 1, 0}, false},
		{"a ring, a mark that is covered", ring, []int{1, 0, 0, 0}, []int{0, 0, 0, 0}, false},
		{"a way out, start", out, []int{1, 0, 0, 0}, []int{1, 0, 0, 0}, false},
		{"a way out, its end", out, []int{1, 0, 0, 0}, []int{0, 0, 1, 0}, true},
		{"two ways out, one end", two, []int{1, 0, 0, 0}, []int{0, 0, 1, 0}, false},
		{"two ways out, the other end", two, []int{1, 0, 0, 0}, []int{0, 0, 0, 1}, false},
		{"the end of a long row", ringNet(), ringMark(50, 0), ringMark(50, 101), true},
		{"the last but one of a long row", ringNet(), ringMark(50, 0), ringMark(50, 100), false},
		{"the end of all", gridNet(2), []int{19, 19}, []int{0, 0}, true},
		{"the last but one of all", gridNet(2), []int{19, 19}, []int{1, 0}, false},
		{"to itself", loopNet(), []int{1}, []int{1}, true},
	}
	for _, c := range cases {
		if is, ok := impl.IsHome(c.n, c.start, impl.MaxMarks, c.m); is != c.want || !ok {
			t.Errorf("%s: %v %v", c.what, is, ok)
		}
	}
}

// Marks that fire back to what was met long ago, and forth again, so that what can be come to is found in no single sweep.
func TestLongWaysBack(t *testing.T) {
	d := dice(44)
	for range 20 {
		places := shuffled(&d, impl.MaxPlaces)
		n := impl.Net{Places: impl.MaxPlaces}
		for i, p := range places {
			n.Trans = append(n.Trans, impl.Trans{In: []int{p}, Out: []int{places[(i+1)%impl.MaxPlaces]}})
		}
		n.Trans = append(n.Trans, impl.Trans{In: []int{places[d.below(impl.MaxPlaces)]}, Out: []int{places[0]}})
		start := oneOn(impl.Flow{Net: n}, places[d.below(impl.MaxPlaces)], true)
		s, code := explorePlainly(n, start, impl.MaxMarks)
		if code != impl.SpAll || len(s.Marks) != impl.MaxPlaces {
			t.Fatalf("%v from %v: %d marks, %d", n, start, len(s.Marks), code)
		}
		checkSpace(t, n, start, impl.MaxPlaces)
		for _, m := range s.Marks {
			checkMark(t, n, s, m)
		}
	}
}

package tests

import (
	"slices"
	"testing"

	"loop.example/g00662/impl"
)

// Promise 22 at wrong nets: the zero answer, no panic, nothing written.
func TestSpacesOfWrongNets(t *testing.T) {
	for _, w := range wrongNets() {
		n, was := guardedNet(w.n), cloneNet(w.n)
		mark := markBeside(w.n)
		start, m := guardedList(mark), guardedList(mark)
		quietly(t, w.what, func() { zeroOfSpace(t, w.what, n, start, impl.MaxMarks, m) })
		untouchedNet(t, w.what, n, was)
		untouched(t, w.what, start, mark)
		untouched(t, w.what, m, mark)
	}
}

// A good net with a start, or a further mark, that is none of its places.
func TestSpacesOfWrongMarks(t *testing.T) {
	for _, w := range wrongMarks() {
		net := impl.Net{Places: w.places, Trans: []impl.Trans{{In: []int{0}, Out: []int{0}}}}
		beside := goodBeside(w)
		n, wrong, good := guardedNet(net), guardedList(w.m), guardedList(beside)
		quietly(t, w.what, func() {
			zeroOfSpace(t, w.what, n, wrong, impl.MaxMarks, good)
			zeroOfSpace(t, w.what, n, wrong, impl.MaxMarks, wrong)
			zeroAt(t, w.what, n, good, impl.MaxMarks, wrong)
		})
		untouchedNet(t, w.what, n, net)
		untouched(t, w.what, wrong, w.m)
		untouched(t, w.what, good, beside)
	}
	for _, m := range [][]int{nil, {1}, {1, 1}, {1, 1, 1, 1}, {1, 1, -1}, {1, 1, impl.MaxTokens + 1}} {
		for _, n := range []impl.Net{gridNet(3), {Places: 3}} {
			zeroOfSpace(t, "a start of other places", n, m, impl.MaxMarks, []int{1, 1, 1})
			zeroAt(t, "a mark of other places", n, []int{1, 1, 1}, impl.MaxMarks, m)
		}
	}
}

func TestWrongBudgets(t *testing.T) {
	for _, net := range []impl.Net{{Places: 3}, gridNet(3), growNet(3, 2)} {
		for _, budget := range wrongBudgets() {
			n, start, m := guardedNet(net), guardedList([]int{1, 0, 1}), guardedList([]int{1, 0, 1})
			quietly(t, "a wrong budget", func() { zeroOfSpace(t, "a wrong budget", n, start, budget, m) })
			untouchedNet(t, "a wrong budget", n, net)
			untouched(t, "a wrong budget", start, []int{1, 0, 1})
			untouched(t, "a wrong budget", m, []int{1, 0, 1})
		}
	}
}

// spaceNet has from spaceStart a space with two marks that are dead, a transition that is, and an arc to the mark itself.
func spaceNet() impl.Net {
	return impl.Net{Places: 3, Trans: []impl.Trans{
		{In: []int{0}, Out: []int{1}, Reset: []int{2}},
		{In: []int{1}, Out: []int{2}},
		{In: []int{0, 1}, Out: []int{0, 1}},
		{In: []int{0, 1, 2}},
	}}
}

func spaceStart() []int { return []int{1, 1, 0} }

// Promise 22 at good arguments: nothing is written, an answer is new memory, and the same is answered again.
func TestListsOfSpacesAreNew(t *testing.T) {
	was, from := spaceNet(), spaceStart()
	n, start := guardedNet(was), guardedList(from)
	end := guardedList([]int{0, 0, 1})
	still := impl.Net{Places: 3}
	calls := []struct {
		what string
		call func() ([]int, bool)
		want []int
	}{
		{"WayTo", func() ([]int, bool) { return impl.WayTo(n, start, impl.MaxMarks, end) }, []int{1, 0, 1}},
		{"WayTo start", func() ([]int, bool) { return impl.WayTo(n, start, impl.MaxMarks, start) }, nil},
		{"FirstDead", func() ([]int, bool) { return impl.FirstDead(n, start, impl.MaxMarks) }, []int{0, 0, 2}},
		{"FirstDead, start", func() ([]int, bool) { return impl.FirstDead(still, start, 1) }, from},
		{"DeadTrans", func() ([]int, bool) { return impl.DeadTrans(n, start, impl.MaxMarks) }, []int{3}},
	}
	for _, c := range calls {
		for range 2 {
			l, ok := c.call()
			if !ok || !slices.Equal(l, c.want) {
				t.Errorf("%s: %v %v", c.what, l, ok)
			}
			scribble(l)
			untouchedNet(t, c.what, n, was)
			untouched(t, c.what, start, from)
			untouched(t, c.what, end, []int{0, 0, 1})
		}
	}
}

func wantedSpace() impl.Space {
	return impl.Space{
		Marks: [][]int{{1, 1, 0}, {0, 2, 0}, {1, 0, 1}, {0, 1, 1}, {0, 1, 0}, {0, 0, 2}, {0, 0, 1}},
		Arcs: []impl.Arc{
			{From: 0, By: 0, To: 1}, {From: 0, By: 1, To: 2}, {From: 0, By: 2, To: 0},
			{From: 1, By: 1, To: 3}, {From: 2, By: 0, To: 4}, {From: 3, By: 1, To: 5}, {From: 4, By: 1, To: 6},
		},
	}
}

// One mark of an answer is written over, up to its capacity: no other one, no arc and no argument is changed by it.
func TestSpacesAreNew(t *testing.T) {
	was, from, want := spaceNet(), spaceStart(), wantedSpace()
	n, start := guardedNet(was), guardedList(from)
	for i := range want.Marks {
		s, code, ok := impl.Explore(n, start, impl.MaxMarks)
		if !ok || code != impl.SpAll || !sameSpace(s, want) {
			t.Fatalf("Explore: %v %v %v", s, code, ok)
		}
		kept := cloneSpace(s)
		scribble(s.Marks[i])
		s.Marks[i], kept.Marks[i] = nil, nil
		if !sameSpace(s, kept) {
			t.Errorf("lists of an answer share memory: %v, it was %v", s, kept)
		}
		scribbleSpace(s)
		untouchedNet(t, "Explore", n, was)
		untouched(t, "Explore", start, from)
	}
}

// A space of start alone is new memory too.
func TestSmallestSpaceIsNew(t *testing.T) {
	start := guardedList([]int{2, 3})
	for range 2 {
		s, code, ok := impl.Explore(impl.Net{Places: 2}, start, 1)
		if !ok || code != impl.SpAll || !sameSpace(s, impl.Space{Marks: [][]int{{2, 3}}}) {
			t.Fatalf("Explore: %v %v %v", s, code, ok)
		}
		scribbleSpace(s)
		untouched(t, "Explore", start, []int{2, 3})
	}
}

// Where no space is told nothing is written either.
func TestSpacesThatAreNotToldWriteNothing(t *testing.T) {
	for _, c := range []struct {
		n      impl.Net
		start  []int
		budget int
		code   int
	}{
		{spaceNet(), spaceStart(), 6, impl.SpBudget},
		{growNet(2, 1), []int{1, 48}, 9, impl.SpTokens},
	} {
		n, start, m := guardedNet(c.n), guardedList(c.start), guardedList(c.start)
		quietly(t, "not told", func() {
			if s, code, ok := impl.Explore(n, start, c.budget); !ok || code != c.code || !sameSpace(s, impl.Space{}) {
				t.Errorf("Explore: %v %v %v", s, code, ok)
			}
			zeroBeyond(t, "not told", n, start, c.budget, m)
		})
		untouchedNet(t, "not told", n, c.n)
		untouched(t, "not told", start, c.start)
		untouched(t, "not told", m, c.start)
	}
}

func TestWhatIsToldOfSpacesWritesNothing(t *testing.T) {
	was, from, at := spaceNet(), spaceStart(), []int{0, 0, 1}
	n, start, m := guardedNet(was), guardedList(from), guardedList(at)
	for range 2 {
		if is, ok := impl.CanCome(n, start, impl.MaxMarks, m); !is || !ok {
			t.Error("CanCome", is, ok)
		}
		if k, ok := impl.BoundOf(n, start, impl.MaxMarks, 1); k != 2 || !ok {
			t.Error("BoundOf", k, ok)
		}
		if is, ok := impl.IsLive(n, start, impl.MaxMarks); is || !ok {
			t.Error("IsLive", is, ok)
		}
		if is, ok := impl.IsHome(n, start, impl.MaxMarks, m); is || !ok {
			t.Error("IsHome", is, ok)
		}
		untouchedNet(t, "told", n, was)
		untouched(t, "told", start, from)
		untouched(t, "told", m, at)
	}
}

// Lists of an argument may share memory among themselves, and start may be the further mark; those of the answer share none.
func TestSpacesOfListsThatShare(t *testing.T) {
	memory := []int{0, 1}
	one := impl.Trans{In: memory[1:], Out: memory[:1], Reset: memory[:1]}
	n := impl.Net{Places: 2, Trans: []impl.Trans{one, one}}
	s, code, ok := impl.Explore(n, memory, impl.MaxMarks)
	want := impl.Space{Marks: [][]int{{0, 1}, {1, 0}}, Arcs: []impl.Arc{{From: 0, By: 0, To: 1}, {From: 0, By: 1, To: 1}}}
	if !ok || code != impl.SpAll || !sameSpace(s, want) {
		t.Errorf("Explore: %v %v %v", s, code, ok)
	}
	scribbleSpace(s)
	if l, ok := impl.WayTo(n, memory, impl.MaxMarks, memory); !ok || len(l) != 0 {
		t.Error("WayTo", l, ok)
	}
	if is, ok := impl.IsHome(n, memory, impl.MaxMarks, memory); is || !ok {
		t.Error("IsHome", is, ok)
	}
	if !slices.Equal(memory, []int{0, 1}) {
		t.Error("an argument was changed", memory)
	}
}

// The same is answered each time, whatever the order in which a map is gone through.
func TestSpacesAreToldInOneOrder(t *testing.T) {
	n, start := gridNet(3), []int{4, 4, 4}
	want, _ := explorePlainly(n, start, impl.MaxMarks)
	for range 50 {
		if s, code, ok := impl.Explore(n, start, impl.MaxMarks); !ok || code != impl.SpAll || !sameSpace(s, want) {
			t.Fatalf("Explore: %v %v %v", s, code, ok)
		}
	}
}

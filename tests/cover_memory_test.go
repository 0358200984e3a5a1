package tests

import (
	"slices"
	"testing"

	"loop.example/g00662/impl"
)

// Promise 22 at wrong nets: the zero answer, no panic, nothing written.
func TestCoversOfWrongNets(t *testing.T) {
	for _, w := range wrongNets() {
		n, was := guardedNet(w.n), cloneNet(w.n)
		mark := markBeside(w.n)
		start, m := guardedList(mark), guardedList(mark)
		quietly(t, w.what, func() { zeroOfCover(t, w.what, n, start, impl.MaxNodes, m) })
		untouchedNet(t, w.what, n, was)
		untouched(t, w.what, start, mark)
		untouched(t, w.what, m, mark)
	}
}

// Nets that empty a place, be it by a transition that is never enabled, are none of this chapter; lists of Reset that are empty do not count.
func TestCoversOfNetsWithResets(t *testing.T) {
	for _, c := range resetNets() {
		n, start, m := guardedNet(c.n), guardedList([]int{1, 0, 0}), guardedList([]int{0, 0, 0})
		quietly(t, c.what, func() { zeroOfCover(t, c.what, n, start, impl.MaxNodes, m) })
		untouchedNet(t, c.what, n, c.n)
		untouched(t, c.what, start, []int{1, 0, 0})
		untouched(t, c.what, m, []int{0, 0, 0})
	}
	if l, ok := impl.CoverTree(emptyResetNet(), []int{1, 0, 0}, 3); !ok || len(l) != 3 {
		t.Error("empty lists of Reset", l, ok)
	}
}

// A good net with a start, or a further mark, that is none of its places.
func TestCoversOfWrongMarks(t *testing.T) {
	for _, w := range wrongMarks() {
		net := impl.Net{Places: w.places, Trans: []impl.Trans{{In: []int{0}, Out: []int{0}}}}
		beside := goodBeside(w)
		n, wrong, good := guardedNet(net), guardedList(w.m), guardedList(beside)
		quietly(t, w.what, func() {
			zeroOfCover(t, w.what, n, wrong, impl.MaxNodes, good)
			zeroOfCover(t, w.what, n, wrong, impl.MaxNodes, wrong)
			zeroOfCanCover(t, w.what, n, good, impl.MaxNodes, wrong)
		})
		untouchedNet(t, w.what, n, net)
		untouched(t, w.what, wrong, w.m)
		untouched(t, w.what, good, beside)
	}
	// Many stands in what is told, and in no mark that is taken.
	for _, m := range [][]int{nil, {1}, {1, 1}, {1, 1, 1, 1}, {1, 1, -1}, {1, 1, impl.MaxTokens + 1}, {1, 1, impl.Many}, {impl.Many, 0, 0}, {1, impl.Many - 1, 0}, {1, 0, impl.Many + 1}} {
		for _, n := range []impl.Net{gridNet(3), growNet(3, 2), {Places: 3}} {
			zeroOfCover(t, "a start of other places", n, m, impl.MaxNodes, []int{1, 1, 1})
			zeroOfCanCover(t, "a mark of other places", n, []int{1, 1, 1}, impl.MaxNodes, m)
		}
	}
}

func TestWrongNodeBudgets(t *testing.T) {
	for _, net := range []impl.Net{{Places: 3}, gridNet(3), growNet(3, 2)} {
		for _, budget := range wrongNodeBudgets() {
			n, start, m := guardedNet(net), guardedList([]int{1, 0, 1}), guardedList([]int{1, 0, 1})
			quietly(t, "a wrong budget", func() { zeroOfCover(t, "a wrong budget", n, start, budget, m) })
			untouchedNet(t, "a wrong budget", n, net)
			untouched(t, "a wrong budget", start, []int{1, 0, 1})
			untouched(t, "a wrong budget", m, []int{1, 0, 1})
		}
		if l, ok := impl.CoverTree(net, []int{1, 0, 1}, impl.MaxNodes); !ok || len(l) == 0 {
			t.Error("the greatest budget", l, ok)
		}
	}
}

// Where no tree is told nothing is written either.
func TestCoversThatAreNotToldWriteNothing(t *testing.T) {
	for _, c := range []struct {
		n      impl.Net
		start  []int
		budget int
	}{
		{twiceNet(), []int{1, 0, 0, 2}, 7},
		{gridNet(2), []int{1, 49}, impl.MaxNodes - 200},
		{impl.Net{Places: 2, Trans: []impl.Trans{{In: []int{0}, Out: []int{1}}}}, []int{2, 49}, impl.MaxNodes},
	} {
		n, start, m := guardedNet(c.n), guardedList(c.start), guardedList(c.start)
		quietly(t, "not told", func() { zeroOfCover(t, "not told", n, start, c.budget, m) })
		untouchedNet(t, "not told", n, c.n)
		untouched(t, "not told", start, c.start)
		untouched(t, "not told", m, c.start)
	}
}

// Promise 22 at good arguments: nothing is written, an answer is new memory, and the same is answered again. One mark of it is written over, up to its capacity: no other one and no argument is changed by it.
func TestCoversAreNew(t *testing.T) {
	was, from := twiceNet(), []int{1, 0, 0, 2}
	want, _ := coverPlainly(was, from, impl.MaxNodes)
	n, start := guardedNet(was), guardedList(from)
	for i := range want {
		l, ok := impl.CoverTree(n, start, impl.MaxNodes)
		if !ok || !sameNodes(l, want) {
			t.Fatalf("CoverTree: %v %v", l, ok)
		}
		kept := cloneNodes(l)
		scribble(l[i].Mark)
		l[i].Mark, kept[i].Mark = nil, nil
		if !sameNodes(l, kept) {
			t.Errorf("lists of an answer share memory: %v, it was %v", l, kept)
		}
		scribbleNodes(l)
		untouchedNet(t, "CoverTree", n, was)
		untouched(t, "CoverTree", start, from)
	}
}

// A tree of start alone is new memory too.
func TestSmallestCoverIsNew(t *testing.T) {
	start := guardedList([]int{2, 3})
	for range 2 {
		l, ok := impl.CoverTree(impl.Net{Places: 2}, start, 1)
		if !ok || !sameNodes(l, []impl.CoverNode{{Mark: []int{2, 3}, Parent: -1, By: -1}}) {
			t.Fatalf("CoverTree: %v %v", l, ok)
		}
		scribbleNodes(l)
		untouched(t, "CoverTree", start, []int{2, 3})
	}
}

func TestWhatIsToldOfCoversWritesNothing(t *testing.T) {
	was, from, at := twiceNet(), []int{1, 0, 0, 2}, []int{0, 1, 50, 50}
	n, start, m := guardedNet(was), guardedList(from), guardedList(at)
	for range 2 {
		if is, ok := impl.IsBounded(n, start, 8); is || !ok {
			t.Error("IsBounded", is, ok)
		}
		l, ok := impl.Unlimited(n, start, 8)
		if !ok || !slices.Equal(l, []int{2, 3}) {
			t.Error("Unlimited", l, ok)
		}
		scribble(l)
		if is, ok := impl.CanCover(n, start, 8, m); !is || !ok {
			t.Error("CanCover", is, ok)
		}
		untouchedNet(t, "told", n, was)
		untouched(t, "told", start, from)
		untouched(t, "told", m, at)
	}
}

// Lists of an argument may share memory among themselves, and start may be the further mark; those of the answer share none.
func TestCoversOfListsThatShare(t *testing.T) {
	memory := []int{0, 1}
	one := impl.Trans{In: memory[1:], Out: memory}
	n := impl.Net{Places: 2, Trans: []impl.Trans{one, one}}
	want, _ := coverPlainly(n, memory, impl.MaxNodes)
	l, ok := impl.CoverTree(n, memory, impl.MaxNodes)
	if !ok || !sameNodes(l, want) {
		t.Errorf("CoverTree: %v %v", l, ok)
	}
	scribbleNodes(l)
	if is, ok := impl.CanCover(n, memory, impl.MaxNodes, memory); !is || !ok {
		t.Error("CanCover", is, ok)
	}
	if wide, ok := impl.Unlimited(n, memory, impl.MaxNodes); !ok || !slices.Equal(wide, []int{0}) {
		t.Error("Unlimited", wide, ok)
	}
	if !slices.Equal(memory, []int{0, 1}) {
		t.Error("an argument was changed", memory)
	}
}

package tests

import (
	"slices"
	"testing"

	"loop.example/g00662/impl"
)

// Promise 22 at wrong nets: the zero answer, no panic, nothing written.
func TestInvOfWrongNets(t *testing.T) {
	for _, w := range wrongNets() {
		n, was := guardedNet(w.n), cloneNet(w.n)
		mark, ones := markBeside(w.n), filled(len(w.n.Trans), 1)
		counts, weights, m := guardedList(ones), guardedList(mark), guardedList(mark)
		quietly(t, w.what, func() { zeroOfInv(t, w.what, n, counts, weights, m) })
		untouchedNet(t, w.what, n, was)
		untouched(t, w.what, counts, ones)
		untouched(t, w.what, weights, mark)
		untouched(t, w.what, m, mark)
	}
}

// Nets that empty a place, be it by a transition that is never enabled, are none of this chapter; lists of Reset that are empty do not count.
func TestInvOfNetsWithResets(t *testing.T) {
	for _, c := range resetNets() {
		zeros := filled(len(c.n.Trans), 0)
		n, counts, weights, m := guardedNet(c.n), guardedList(zeros), guardedList([]int{1, 1, 0}), guardedList([]int{0, 0, 0})
		quietly(t, c.what, func() { zeroOfInv(t, c.what, n, counts, weights, m) })
		untouchedNet(t, c.what, n, c.n)
		untouched(t, c.what, counts, zeros)
		untouched(t, c.what, weights, []int{1, 1, 0})
		untouched(t, c.what, m, []int{0, 0, 0})
	}
	empty := emptyResetNet()
	if l, ok := impl.SmallInvariants(empty); !ok || !sameRows(l, [][]int{{0, 1}, {2}}) {
		t.Error("empty lists of Reset", l, ok)
	}
	checkCounts(t, empty, []int{1, 2})
	checkWeights(t, empty, []int{1, 1, 0})
}

// Counts that are too few, too many or out of their bounds, wherever the wrong one stands.
func TestWrongCounts(t *testing.T) {
	for _, net := range []impl.Net{{Places: 1}, loopNet(), flowWith(3).Net, netToAsk(), rowNet(impl.MaxPlaces)} {
		for _, list := range wrongCounts(len(net.Trans)) {
			n, counts := guardedNet(net), guardedList(list)
			quietly(t, "wrong counts", func() { zeroOfCounts(t, "wrong counts", n, counts) })
			untouchedNet(t, "wrong counts", n, net)
			untouched(t, "wrong counts", counts, list)
		}
	}
}

// Weights that are too few, too many or out of their bounds, wherever the wrong one stands; as many as there are transitions are none either.
func TestWrongWeights(t *testing.T) {
	for _, net := range []impl.Net{{Places: 1}, {Places: 4}, loopNet(), flowWith(3).Net, netToAsk(), rowNet(impl.MaxPlaces)} {
		lists := wrongWeights(net.Places)
		if len(net.Trans) != net.Places {
			lists = append(lists, filled(len(net.Trans), 1))
		}
		for _, list := range lists {
			mark := filled(net.Places, 0)
			n, weights, m := guardedNet(net), guardedList(list), guardedList(mark)
			quietly(t, "wrong weights", func() { zeroOfWeights(t, "wrong weights", n, weights, m) })
			quietly(t, "wrong weights, and a mark as long", func() { zeroOfWeights(t, "wrong weights, and a mark as long", n, weights, filled(len(list), 1)) })
			untouchedNet(t, "wrong weights", n, net)
			untouched(t, "wrong weights", weights, list)
			untouched(t, "wrong weights", m, mark)
		}
	}
}

// A good net and weights of it, with a mark that is none of its places.
func TestWeightOfWrongMarks(t *testing.T) {
	for _, w := range wrongMarks() {
		net, ones := impl.Net{Places: w.places, Trans: loopNet().Trans}, goodBeside(w)
		n, weights, m := guardedNet(net), guardedList(ones), guardedList(w.m)
		quietly(t, w.what, func() { zeroOfWeightOf(t, w.what, n, weights, m) })
		untouchedNet(t, w.what, n, net)
		untouched(t, w.what, weights, ones)
		untouched(t, w.what, m, w.m)
	}
	for _, m := range [][]int{nil, {1}, {1, 1}, {1, 1, 1, 1}, {1, 1, -1}, {1, 1, impl.MaxTokens + 1}, {1, 1, impl.Many}, {-1, 0, 0}} {
		for _, n := range []impl.Net{gridNet(3), growNet(3, 2), {Places: 3}} {
			zeroOfWeightOf(t, "a mark of other places", n, []int{1, 1, 1}, m)
			zeroOfWeightOf(t, "a mark of other places, no weight", n, []int{0, 0, 0}, m)
		}
	}
}

// Numbers that are no transition's make the whole list wrong, wherever they stand.
func TestCountsOfNumbersThatAreNone(t *testing.T) {
	net := flowWith(3).Net
	for _, number := range wrongNumbers(len(net.Trans)) {
		for _, list := range [][]int{{number}, {number, 0}, {0, number, 1}, {0, 1, number}, append(filled(impl.MaxSeq-1, 0), number)} {
			n, seq := guardedNet(net), guardedList(list)
			quietly(t, "a number that is none", func() { zeroOfCountsOf(t, "a number that is none", n, seq) })
			untouchedNet(t, "a number that is none", n, net)
			untouched(t, "a number that is none", seq, list)
		}
	}
	for _, list := range [][]int{{0}, {-1}, filled(impl.MaxSeq, 0)} {
		zeroOfCountsOf(t, "no transition", impl.Net{Places: 1}, list)
	}
	long := filled(impl.MaxSeq+1, 0)
	n, seq := guardedNet(net), guardedList(long)
	zeroOfCountsOf(t, "one number more than MaxSeq", n, seq)
	untouchedNet(t, "one number more than MaxSeq", n, net)
	untouched(t, "one number more than MaxSeq", seq, long)
}

// More than 10 places: nothing is told, and nothing written.
func TestTooManyPlacesWriteNothing(t *testing.T) {
	was := rowNet(maxInvPlaces + 1)
	n := guardedNet(was)
	quietly(t, "too many places", func() { zeroOfSmall(t, "too many places", n) })
	untouchedNet(t, "too many places", n, was)
}

// Promise 22 at good arguments: nothing is written, an answer is new memory, and the same is answered again.
func TestListsOfCountsAreNew(t *testing.T) {
	was, firings, often := netToAsk(), []int{2, 0, 2}, []int{1, 0, 2}
	n, seq, counts := guardedNet(was), guardedList(firings), guardedList(often)
	for range 2 {
		change, ok := impl.ChangeBy(n, counts)
		if !ok || !slices.Equal(change, []int{1, 1, -1}) {
			t.Error("ChangeBy", change, ok)
		}
		scribble(change)
		l, ok := impl.CountsOf(n, seq)
		if !ok || !slices.Equal(l, often) {
			t.Error("CountsOf", l, ok)
		}
		scribble(l)
		untouchedNet(t, "lists", n, was)
		untouched(t, "lists", seq, firings)
		untouched(t, "lists", counts, often)
	}
}

// One set of an answer is written over, up to its capacity: no other one and no argument is changed by it.
func TestSmallInvariantsAreNew(t *testing.T) {
	for _, was := range []impl.Net{
		{Places: 4, Trans: []impl.Trans{{In: []int{0, 1}, Out: []int{2, 3}}}},
		{Places: 3},
		{Places: 6, Trans: []impl.Trans{{In: []int{0}, Out: []int{1}}, {In: []int{1}, Out: []int{2}}}},
	} {
		n := guardedNet(was)
		rowsOwnMemory(t, "SmallInvariants", smallPlainly(was), func() ([][]int, bool) { return impl.SmallInvariants(n) }, func() { untouchedNet(t, "SmallInvariants", n, was) })
	}
}

func TestWhatIsToldOfInvariantsWritesNothing(t *testing.T) {
	was, ones, mark, often := netToAsk(), []int{2, 1, 1}, []int{3, 1, 0}, []int{0, 5, 0}
	n, weights, m, counts := guardedNet(was), guardedList(ones), guardedList(mark), guardedList(often)
	for range 2 {
		if is, ok := impl.IsInvariant(n, weights); is || !ok {
			t.Error("IsInvariant", is, ok)
		}
		if k, ok := impl.WeightOf(n, weights, m); k != 7 || !ok {
			t.Error("WeightOf", k, ok)
		}
		if is, ok := impl.IsCycle(n, counts); !is || !ok {
			t.Error("IsCycle", is, ok)
		}
		if is, ok := impl.IsKept(n); is || !ok {
			t.Error("IsKept", is, ok)
		}
		untouchedNet(t, "told", n, was)
		untouched(t, "told", weights, ones)
		untouched(t, "told", m, mark)
		untouched(t, "told", counts, often)
	}
}

// Lists of an argument may share memory among themselves, and one list may be weights, counts, a mark and firings; those of the answer share none.
func TestInvOfListsThatShare(t *testing.T) {
	memory := []int{0, 1}
	one := impl.Trans{In: memory[:1], Out: memory[1:]}
	n := impl.Net{Places: 2, Trans: []impl.Trans{one, one}}
	if l, ok := impl.ChangeBy(n, memory); !ok || !slices.Equal(l, []int{-1, 1}) {
		t.Error("ChangeBy", l, ok)
	} else {
		scribble(l)
	}
	if l, ok := impl.CountsOf(n, memory); !ok || !slices.Equal(l, []int{1, 1}) {
		t.Error("CountsOf", l, ok)
	} else {
		scribble(l)
	}
	if is, ok := impl.IsInvariant(n, memory); is || !ok {
		t.Error("IsInvariant", is, ok)
	}
	if k, ok := impl.WeightOf(n, memory, memory); k != 1 || !ok {
		t.Error("WeightOf", k, ok)
	}
	if is, ok := impl.IsCycle(n, memory); is || !ok {
		t.Error("IsCycle", is, ok)
	}
	l, ok := impl.SmallInvariants(n)
	if !ok || !sameRows(l, [][]int{{0, 1}}) {
		t.Error("SmallInvariants", l, ok)
	}
	scribbleRows(l)
	if !slices.Equal(memory, []int{0, 1}) {
		t.Error("an argument was changed", memory)
	}
}

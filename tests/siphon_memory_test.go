package tests

import (
	"slices"
	"testing"

	"loop.example/g00662/impl"
)

// Promise 22 at wrong nets: the zero answer, no panic, nothing written.
func TestSiphonsOfWrongNets(t *testing.T) {
	for _, w := range wrongNets() {
		n, was := guardedNet(w.n), cloneNet(w.n)
		places, mark := numbersTo(max(0, min(w.n.Places, impl.MaxPlaces+1))), markBeside(w.n)
		set, m := guardedList(places), guardedList(mark)
		quietly(t, w.what, func() { zeroOfSiphon(t, w.what, n, set, m) })
		untouchedNet(t, w.what, n, was)
		untouched(t, w.what, set, places)
		untouched(t, w.what, m, mark)
	}
}

// Nets that empty a place, be it by a transition that is never enabled, are none of this chapter; lists of Reset that are empty do not count.
func TestSiphonsOfNetsWithResets(t *testing.T) {
	for _, c := range resetNets() {
		n, set, m := guardedNet(c.n), guardedList([]int{0, 2}), guardedList([]int{1, 1, 1})
		quietly(t, c.what, func() { zeroOfSiphon(t, c.what, n, set, m) })
		untouchedNet(t, c.what, n, c.n)
		untouched(t, c.what, set, []int{0, 2})
		untouched(t, c.what, m, []int{1, 1, 1})
	}
	empty := emptyResetNet()
	if l, ok := impl.SmallSiphons(empty); !ok || !sameRows(l, [][]int{{0}, {2}}) {
		t.Error("empty lists of Reset", l, ok)
	}
	checkSet(t, empty, []int{0, 1})
	checkGuarded(t, empty, []int{1, 1, 1})
}

// Sets that do not rise, have a place twice, or what is no place, wherever it stands.
func TestWrongSets(t *testing.T) {
	for _, net := range []impl.Net{{Places: 1}, {Places: 4}, loopNet(), flowWith(3).Net, netToAsk(), roundNet(maxInvPlaces), rowNet(impl.MaxPlaces)} {
		lists := wrongSets(net.Places)
		if net.Places == 3 {
			lists = append(lists, wrongLists()...)
		}
		for _, list := range lists {
			n, set := guardedNet(net), guardedList(list)
			quietly(t, "wrong sets", func() { zeroOfSets(t, "wrong sets", n, set) })
			untouchedNet(t, "wrong sets", n, net)
			untouched(t, "wrong sets", set, list)
		}
	}
}

// A good net with a mark that is none of its places.
func TestGuardedOfWrongMarks(t *testing.T) {
	for _, w := range wrongMarks() {
		net := impl.Net{Places: w.places, Trans: loopNet().Trans}
		n, m := guardedNet(net), guardedList(w.m)
		quietly(t, w.what, func() { zeroOfGuarded(t, w.what, n, m) })
		untouchedNet(t, w.what, n, net)
		untouched(t, w.what, m, w.m)
	}
	for _, m := range [][]int{nil, {1}, {1, 1}, {1, 1, 1, 1}, {1, 1, -1}, {1, 1, impl.MaxTokens + 1}, {1, 1, impl.Many}, {-1, 0, 0}} {
		for _, n := range []impl.Net{gridNet(3), growNet(3, 2), roundNet(3), {Places: 3}} {
			zeroOfGuarded(t, "a mark of other places", n, m)
		}
	}
}

// More than 10 places: nothing is told, and nothing written.
func TestTooManyPlacesForSiphonsWriteNothing(t *testing.T) {
	was, ones := roundNet(maxInvPlaces+1), filled(maxInvPlaces+1, 1)
	n, m := guardedNet(was), guardedList(ones)
	quietly(t, "too many places", func() {
		zeroOfSmallSiphons(t, "too many places", n)
		zeroOfGuarded(t, "too many places", n, m)
	})
	untouchedNet(t, "too many places", n, was)
	untouched(t, "too many places", m, ones)
}

// Promise 22 at good arguments: nothing is written, an answer is new memory, and the same is answered again.
func TestGreatestSetsAreNew(t *testing.T) {
	was := netOf(5, stepOf([]int{0}, 1, 2), stepOf([]int{1}, 0), stepOf([]int{2}), stepOf([]int{4}, 3))
	places := []int{0, 1, 2, 3}
	n, set := guardedNet(was), guardedList(places)
	for range 2 {
		trap, ok := impl.BigTrap(n, set)
		if !ok || !slices.Equal(trap, []int{0, 1, 3}) {
			t.Error("BigTrap", trap, ok)
		}
		siphon, ok := impl.BigSiphon(n, set)
		if !ok || !slices.Equal(siphon, []int{0, 1, 2}) {
			t.Error("BigSiphon", siphon, ok)
		}
		scribble(trap)
		scribble(siphon)
		untouchedNet(t, "greatest sets", n, was)
		untouched(t, "greatest sets", set, places)
	}
}

// A set that is a trap and a siphon already is told in memory of its own, and so is one of which places were taken out.
func TestGreatestSetsAreNotTheSet(t *testing.T) {
	for _, was := range [][]int{{0, 1, 2}, {0, 1}, {2}} {
		n, set := netOf(3, roundNet(2).Trans...), guardedList(was)
		for _, big := range []func(impl.Net, []int) ([]int, bool){impl.BigTrap, impl.BigSiphon} {
			l, ok := big(n, set)
			if !ok || !slices.Equal(l, was) {
				t.Errorf("of %v: %v %v", was, l, ok)
			}
			scribble(l)
			untouched(t, "greatest sets", set, was)
		}
	}
}

// One set of an answer is written over, up to its capacity: no other one and no argument is changed by it.
func TestSmallSiphonsAreNew(t *testing.T) {
	for _, was := range []impl.Net{
		netOf(4, stepOf([]int{0, 1}, 2, 3), stepOf([]int{2, 3}, 0, 1)),
		netOf(3),
		netOf(5, stepOf([]int{0}, 1, 2), stepOf([]int{1, 2}, 0)),
	} {
		n := guardedNet(was)
		rowsOwnMemory(t, "SmallSiphons", smallSiphonsPlainly(was), func() ([][]int, bool) { return impl.SmallSiphons(n) }, func() { untouchedNet(t, "SmallSiphons", n, was) })
	}
}

func TestWhatIsToldOfSiphonsWritesNothing(t *testing.T) {
	was, places, mark := netToAsk(), []int{0, 2}, []int{1, 1, 0}
	n, set, m := guardedNet(was), guardedList(places), guardedList(mark)
	for range 2 {
		if is, ok := impl.IsSiphon(n, set); !is || !ok {
			t.Error("IsSiphon", is, ok)
		}
		if is, ok := impl.IsTrap(n, set); !is || !ok {
			t.Error("IsTrap", is, ok)
		}
		if is, ok := impl.IsGuarded(n, m); !is || !ok {
			t.Error("IsGuarded", is, ok)
		}
		untouchedNet(t, "told", n, was)
		untouched(t, "told", set, places)
		untouched(t, "told", m, mark)
	}
}

// Lists of an argument may share memory among themselves, and one list may be a set, a mark and a transition's; those of the answer share none.
func TestSiphonsOfListsThatShare(t *testing.T) {
	memory := []int{0, 1}
	one := impl.Trans{In: memory[:1], Out: memory}
	n := impl.Net{Places: 2, Trans: []impl.Trans{one, {In: memory, Out: memory[:1]}}}
	if is, ok := impl.IsSiphon(n, memory); !is || !ok {
		t.Error("IsSiphon", is, ok)
	}
	if is, ok := impl.IsTrap(n, memory[1:]); is || !ok {
		t.Error("IsTrap", is, ok)
	}
	for _, big := range []func(impl.Net, []int) ([]int, bool){impl.BigTrap, impl.BigSiphon} {
		l, ok := big(n, memory)
		if !ok || !slices.Equal(l, memory) {
			t.Error("the greatest set", l, ok)
		}
		scribble(l)
	}
	if is, ok := impl.IsGuarded(n, memory); is || !ok {
		t.Error("IsGuarded", is, ok)
	}
	l, ok := impl.SmallSiphons(n)
	if !ok || !sameRows(l, [][]int{{0}}) {
		t.Error("SmallSiphons", l, ok)
	}
	scribbleRows(l)
	if !slices.Equal(memory, []int{0, 1}) {
		t.Error("an argument was changed", memory)
	}
}

// The same is answered each time, whatever is taken out first.
func TestGreatestSetsAreToldInOneOrder(t *testing.T) {
	n := netOf(impl.MaxPlaces, slices.Concat(roundNet(8).Trans, rowNet(impl.MaxPlaces).Trans[8:], []impl.Trans{stepOf([]int{impl.MaxPlaces - 1})})...)
	set, want := without(numbersTo(impl.MaxPlaces), 8), numbersTo(8)
	for range 50 {
		if l, ok := impl.BigTrap(n, set); !ok || !slices.Equal(l, want) {
			t.Fatalf("BigTrap: %v %v, not %v", l, ok, want)
		}
		if l, ok := impl.BigSiphon(n, set); !ok || !slices.Equal(l, want) {
			t.Fatalf("BigSiphon: %v %v, not %v", l, ok, want)
		}
	}
}

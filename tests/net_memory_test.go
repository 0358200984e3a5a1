package tests

import (
	"math"
	"slices"
	"testing"

	"loop.example/g00662/impl"
)

// zeroOfNet fails where a function of the chapter tells something, but what of itself is no fault: GoodNet, and what takes the net alone.
func zeroOfNet(t *testing.T, what string, n impl.Net, m []int) {
	t.Helper()
	if l, ok := impl.Enabled(n, m); len(l) != 0 || ok {
		t.Errorf("Enabled, %s: %v %v", what, l, ok)
	}
	for _, number := range []int{0, -1, 1} {
		if x, ok := impl.Fire(n, m, number); len(x) != 0 || ok {
			t.Errorf("Fire, %s: %v %v", what, x, ok)
		}
	}
	for _, seq := range [][]int{nil, {0}, {-1}, filled(impl.MaxSeq+1, 0)} {
		if x, many, ok := impl.FireAll(n, m, seq); len(x) != 0 || many != 0 || ok {
			t.Errorf("FireAll, %s: %v %v %v", what, x, many, ok)
		}
	}
}

// Promise 22 at wrong nets: the zero answer, no panic, nothing written.
func TestWrongNets(t *testing.T) {
	for _, w := range wrongNets() {
		n, was := guardedNet(w.n), cloneNet(w.n)
		mark := markBeside(w.n)
		m := guardedList(mark)
		quietly(t, w.what, func() {
			zeroOfNet(t, w.what, n, m)
			for _, p := range []int{0, -1, 1, n.Places, math.MaxInt, math.MinInt} {
				if l, ok := impl.TakersOf(n, p); len(l) != 0 || ok {
					t.Errorf("TakersOf, %s: %v %v", w.what, l, ok)
				}
				if l, ok := impl.GiversOf(n, p); len(l) != 0 || ok {
					t.Errorf("GiversOf, %s: %v %v", w.what, l, ok)
				}
			}
			if is, ok := impl.IsFreeChoice(n); is || ok {
				t.Errorf("IsFreeChoice, %s: %v %v", w.what, is, ok)
			}
			if is, ok := impl.HasResets(n); is || ok {
				t.Errorf("HasResets, %s: %v %v", w.what, is, ok)
			}
			if x, ok := impl.TurnNet(n); !sameNet(x, impl.Net{}) || ok {
				t.Errorf("TurnNet, %s: %v %v", w.what, x, ok)
			}
			if impl.GoodNet(n) {
				t.Errorf("GoodNet, %s: true", w.what)
			}
		})
		untouchedNet(t, w.what, n, was)
		untouched(t, w.what, m, mark)
	}
}

// A good net with a mark that is none of its places.
func TestNetsWithWrongMarks(t *testing.T) {
	for _, w := range wrongMarks() {
		net := impl.Net{Places: w.places, Trans: []impl.Trans{{In: []int{0}, Out: []int{0}}}}
		n, m := guardedNet(net), guardedList(w.m)
		quietly(t, w.what, func() { zeroOfNet(t, w.what, n, m) })
		untouchedNet(t, w.what, n, net)
		untouched(t, w.what, m, w.m)
	}
	for _, m := range [][]int{nil, {1}, {1, 1}, {1, 1, 1, 1}, {1, 1, -1}, {1, 1, impl.MaxTokens + 1}} {
		zeroOfNet(t, "a mark of other places", impl.Net{Places: 3, Trans: []impl.Trans{{In: []int{0}}}}, m)
		zeroOfNet(t, "a mark of other places, no transition", impl.Net{Places: 3}, m)
	}
}

func TestWrongNumbersOfTransitions(t *testing.T) {
	net := impl.Net{Places: 2, Trans: []impl.Trans{{In: []int{0}, Out: []int{1}}, {In: []int{0}}}}
	for _, number := range wrongNumbers(len(net.Trans)) {
		n, m := guardedNet(net), guardedList([]int{3, 3})
		quietly(t, "a number that is none", func() {
			if x, ok := impl.Fire(n, m, number); len(x) != 0 || ok {
				t.Errorf("Fire %d: %v %v", number, x, ok)
			}
			if x, many, ok := impl.FireAll(n, m, []int{0, number, 0}); len(x) != 0 || many != 0 || ok {
				t.Errorf("FireAll with %d: %v %v %v", number, x, many, ok)
			}
		})
		untouchedNet(t, "a number that is none", n, net)
		untouched(t, "a number that is none", m, []int{3, 3})
	}
	if x, ok := impl.Fire(impl.Net{Places: 1}, []int{1}, 0); len(x) != 0 || ok {
		t.Errorf("Fire without a transition: %v %v", x, ok)
	}
}

func netToAsk() impl.Net {
	return impl.Net{Places: 3, Trans: []impl.Trans{
		{In: []int{0}, Out: []int{1, 2}},
		{In: []int{0, 1}, Out: []int{0, 1}},
		{In: []int{2}, Out: []int{0}},
	}}
}

// Promise 22 at good arguments: nothing is written, an answer is new memory, and the same is answered again.
func TestAnswersOfNetsAreNew(t *testing.T) {
	was, mark, order := netToAsk(), []int{2, 1, 0}, []int{0, 1, 2}
	n, m, seq := guardedNet(was), guardedList(mark), guardedList(order)
	calls := []struct {
		what string
		call func() ([]int, bool)
		want []int
	}{
		{"Enabled", func() ([]int, bool) { return impl.Enabled(n, m) }, []int{0, 1}},
		{"Fire", func() ([]int, bool) { return impl.Fire(n, m, 1) }, []int{2, 1, 0}},
		{"FireAll", func() ([]int, bool) { x, _, ok := impl.FireAll(n, m, seq); return x, ok }, []int{2, 2, 0}},
		{"FireAll of none", func() ([]int, bool) { x, _, ok := impl.FireAll(n, m, nil); return x, ok }, []int{2, 1, 0}},
		{"TakersOf", func() ([]int, bool) { return impl.TakersOf(n, 0) }, []int{0, 1}},
		{"GiversOf", func() ([]int, bool) { return impl.GiversOf(n, 1) }, []int{0, 1}},
	}
	for _, c := range calls {
		for range 2 {
			l, ok := c.call()
			if !ok || !slices.Equal(l, c.want) {
				t.Errorf("%s: %v %v", c.what, l, ok)
			}
			scribble(l)
			untouchedNet(t, c.what, n, was)
			untouched(t, c.what, m, mark)
			untouched(t, c.what, seq, order)
		}
	}
}

func TestTurnedNetsAreNew(t *testing.T) {
	was := netToAsk()
	n := guardedNet(was)
	want := impl.Net{Places: 3, Trans: []impl.Trans{
		{In: []int{1, 2}, Out: []int{0}},
		{In: []int{0, 1}, Out: []int{0, 1}},
		{In: []int{0}, Out: []int{2}},
	}}
	for i := range want.Trans {
		for part := range 2 {
			turned, ok := impl.TurnNet(n)
			if !ok || !sameNet(turned, want) {
				t.Fatalf("TurnNet: %v %v", turned, ok)
			}
			kept := cloneNet(turned)
			list, old := &turned.Trans[i].In, &kept.Trans[i].In
			if part == 1 {
				list, old = &turned.Trans[i].Out, &kept.Trans[i].Out
			}
			scribble(*list)
			*list, *old = nil, nil
			if !sameNet(turned, kept) {
				t.Errorf("lists of an answer share memory: %v, it was %v", turned, kept)
			}
			scribbleNet(turned)
			untouchedNet(t, "TurnNet", n, was)
		}
	}
}

// Lists of an argument may share memory among themselves; those of the answer do not.
func TestTurnNetOfListsThatShare(t *testing.T) {
	memory := []int{0, 1}
	one := impl.Trans{In: memory, Out: memory}
	turned, ok := impl.TurnNet(impl.Net{Places: 2, Trans: []impl.Trans{one, one}})
	if !ok || len(turned.Trans) != 2 {
		t.Fatalf("TurnNet: %v %v", turned, ok)
	}
	scribble(turned.Trans[0].In)
	for _, l := range [][]int{turned.Trans[0].Out, turned.Trans[1].In, turned.Trans[1].Out, memory} {
		if !slices.Equal(l, []int{0, 1}) {
			t.Errorf("shared memory: %v, %v", turned, memory)
		}
	}
}

func TestWhatIsToldOfNetsWritesNothing(t *testing.T) {
	was := netToAsk()
	n := guardedNet(was)
	for range 2 {
		if !impl.GoodNet(n) {
			t.Error("not told good")
		}
		if is, ok := impl.IsFreeChoice(n); is || !ok {
			t.Error("IsFreeChoice", is, ok)
		}
		if is, ok := impl.HasResets(n); is || !ok {
			t.Error("HasResets", is, ok)
		}
		untouchedNet(t, "told", n, was)
	}
}

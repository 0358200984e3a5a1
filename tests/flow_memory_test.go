package tests

import (
	"slices"
	"testing"

	"loop.example/g00662/impl"
)

// zeroOfFlow fails where a function of the chapter tells something of a flow that is not good.
func zeroOfFlow(t *testing.T, what string, f impl.Flow) {
	t.Helper()
	if impl.GoodFlow(f) {
		t.Errorf("GoodFlow, %s: true", what)
	}
	if m, ok := impl.StartOf(f); len(m) != 0 || ok {
		t.Errorf("StartOf, %s: %v %v", what, m, ok)
	}
	if m, ok := impl.EndOf(f); len(m) != 0 || ok {
		t.Errorf("EndOf, %s: %v %v", what, m, ok)
	}
	if n, ok := impl.ShortNet(f); !sameNet(n, impl.Net{}) || ok {
		t.Errorf("ShortNet, %s: %v %v", what, n, ok)
	}
	for _, pair := range [][2]impl.Flow{{f, rowFlow(0, 1)}, {rowFlow(0, 1), f}, {f, f}} {
		if c, ok := impl.ChainFlows(pair[0], pair[1]); !sameFlow(c, impl.Flow{}) || ok {
			t.Errorf("ChainFlows, %s: %v %v", what, c, ok)
		}
	}
}

// Promise 22 at wrong flows: the zero answer, no panic, nothing written.
func TestWrongFlows(t *testing.T) {
	for _, w := range wrongFlows() {
		f, was := guardedFlow(w.f), cloneFlow(w.f)
		quietly(t, w.what, func() { zeroOfFlow(t, w.what, f) })
		untouchedNet(t, w.what, f.Net, was.Net)
	}
}

func TestOnWayOfWrongNets(t *testing.T) {
	for _, w := range wrongNets() {
		n, was := guardedNet(w.n), cloneNet(w.n)
		for _, ends := range [][2]int{{0, 0}, {0, 1}, {1, 2}, {-1, 0}, {n.Places, 0}, {n.Places - 1, n.Places - 1}} {
			quietly(t, w.what, func() {
				if p, x, ok := impl.OnWay(n, ends[0], ends[1]); len(p) != 0 || len(x) != 0 || ok {
					t.Errorf("OnWay, %s: %v %v %v", w.what, p, x, ok)
				}
			})
		}
		untouchedNet(t, w.what, n, was)
	}
}

func flowToAsk() impl.Flow {
	return flowWith(4,
		impl.Trans{In: []int{0, 2}, Out: []int{2, 3}, Reset: []int{2, 3}},
		impl.Trans{In: []int{3}, Out: []int{1, 2}},
	)
}

// Promise 22 at good arguments: nothing is written, an answer is new memory, and the same is answered again.
func TestListsOfFlowsAreNew(t *testing.T) {
	was := flowToAsk()
	f := guardedFlow(was)
	calls := []struct {
		what string
		call func() ([]int, bool)
		want []int
	}{
		{"StartOf", func() ([]int, bool) { return impl.StartOf(f) }, []int{1, 0, 0, 0}},
		{"EndOf", func() ([]int, bool) { return impl.EndOf(f) }, []int{0, 1, 0, 0}},
		{"OnWay, places", func() ([]int, bool) { p, _, ok := impl.OnWay(f.Net, 0, 1); return p, ok }, []int{0, 1, 2, 3}},
		{"OnWay, transitions", func() ([]int, bool) { _, x, ok := impl.OnWay(f.Net, 0, 1); return x, ok }, []int{0, 1, 2, 3}},
		{"GoodFlow", func() ([]int, bool) { return nil, impl.GoodFlow(f) }, nil},
	}
	for _, c := range calls {
		for range 2 {
			l, ok := c.call()
			if !ok || !slices.Equal(l, c.want) {
				t.Errorf("%s: %v %v", c.what, l, ok)
			}
			scribble(l)
			untouchedNet(t, c.what, f.Net, was.Net)
		}
	}
}

func TestListsOfOnWayShareNothing(t *testing.T) {
	f := flowToAsk()
	p, x, _ := impl.OnWay(f.Net, f.From, f.To)
	scribble(p)
	if !slices.Equal(x, []int{0, 1, 2, 3}) {
		t.Error("the transitions share memory with the places", x)
	}
	p, x, _ = impl.OnWay(f.Net, f.From, f.To)
	scribble(x)
	if !slices.Equal(p, []int{0, 1, 2, 3}) {
		t.Error("the places share memory with the transitions", p)
	}
}

func TestShortNetsAreNew(t *testing.T) {
	was := flowToAsk()
	f := guardedFlow(was)
	made := func() impl.Net {
		n, ok := impl.ShortNet(f)
		if !ok || len(n.Trans) != len(was.Net.Trans)+1 {
			t.Fatalf("ShortNet: %v %v", n, ok)
		}
		return n
	}
	ownMemory(t, "ShortNet", made)
	for range 2 {
		scribbleNet(made())
		untouchedNet(t, "ShortNet", f.Net, was.Net)
	}
}

// The second flow is another one, and the same one again.
func TestChainedFlowsAreNew(t *testing.T) {
	wasA, wasB := flowToAsk(), rowFlow(1, 0, 2)
	a, b := guardedFlow(wasA), guardedFlow(wasB)
	for _, next := range []impl.Flow{a, b} {
		want := chainPlainly(a, next)
		made := func() impl.Net {
			f, ok := impl.ChainFlows(a, next)
			if !ok || !sameFlow(f, want) {
				t.Fatalf("ChainFlows: %v %v", f, ok)
			}
			return f.Net
		}
		ownMemory(t, "ChainFlows", made)
		for range 2 {
			scribbleNet(made())
			untouchedNet(t, "ChainFlows", a.Net, wasA.Net)
			untouchedNet(t, "ChainFlows", b.Net, wasB.Net)
		}
	}
}

// Lists of an argument may share memory among themselves; those of the answer do not.
func TestFlowsOfListsThatShare(t *testing.T) {
	memory := []int{2}
	f := flowWith(3, impl.Trans{In: memory, Out: memory, Reset: memory}, impl.Trans{In: memory, Out: memory, Reset: memory})
	ownMemory(t, "ShortNet of lists that share", func() impl.Net { n, _ := impl.ShortNet(f); return n })
	ownMemory(t, "ChainFlows of lists that share", func() impl.Net { c, _ := impl.ChainFlows(f, f); return c.Net })
	if !slices.Equal(memory, []int{2}) {
		t.Error("an argument was changed", memory)
	}
}

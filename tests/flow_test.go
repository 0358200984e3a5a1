package tests

import (
	"slices"
	"testing"

	"loop.example/g00662/impl"
)

func goodFlows() []impl.Flow {
	return []impl.Flow{
		rowFlow(0, 1),
		rowFlow(1, 0),
		rowFlow(0, 2, 1),
		rowFlow(2, 0, 1, 3),
		rowFlow(numbersTo(impl.MaxPlaces)...),
		longFlow(2, impl.MaxTrans),
		longFlow(impl.MaxPlaces, impl.MaxTrans),
		flowWith(3, impl.Trans{In: []int{0}, Out: []int{1}}),
		flowWith(3, impl.Trans{In: []int{0, 2}, Out: []int{1, 2}}),
		flowWith(3, impl.Trans{In: []int{2}, Out: []int{2}, Reset: []int{2}}),
		flowWith(4, impl.Trans{In: []int{0}, Out: []int{3}}, impl.Trans{In: []int{2, 3}, Out: []int{1}, Reset: []int{2, 3}}),
		// One place beside others is enough to be come to by, and to lead on by.
		flowWith(4, impl.Trans{In: []int{0, 3}, Out: []int{2, 3}}),
		// A loop alone leads to place 3 and back.
		flowWith(4, impl.Trans{In: []int{2}, Out: []int{3}}, impl.Trans{In: []int{3}, Out: []int{2}}),
		flowWith(5, impl.Trans{In: []int{2}, Out: []int{3}}, impl.Trans{In: []int{3}, Out: []int{4}}, impl.Trans{In: []int{4}, Out: []int{2}}),
		// A loop of a transition alone.
		flowWith(3, impl.Trans{In: []int{2}, Out: []int{2}}),
		// The steps stand from the end to the start.
		{Net: impl.Net{Places: 4, Trans: []impl.Trans{{In: []int{2}, Out: []int{3}}, {In: []int{1}, Out: []int{2}}, {In: []int{0}, Out: []int{1}}}}, From: 0, To: 3},
		{Net: impl.Net{Places: 2, Trans: []impl.Trans{{In: []int{0}, Out: []int{1}, Reset: []int{}}}}, From: 0, To: 1},
	}
}

func TestGoodFlow(t *testing.T) {
	for _, f := range goodFlows() {
		if !impl.GoodFlow(f) {
			t.Errorf("%v: not told good", f)
		}
	}
	for _, w := range wrongFlows() {
		if impl.GoodFlow(w.f) {
			t.Errorf("%s, %v: told good", w.what, w.f)
		}
	}
}

// Without a transition no way leads from one place to another, so no flow is without one.
func TestNoFlowWithoutATransition(t *testing.T) {
	for places := 1; places <= impl.MaxPlaces; places++ {
		n := impl.Net{Places: places}
		for from := -1; from <= places; from++ {
			for to := -1; to <= places; to++ {
				if impl.GoodFlow(impl.Flow{Net: n, From: from, To: to}) {
					t.Errorf("%d places, from %d to %d: told good", places, from, to)
				}
			}
		}
	}
}

// checkFlow holds what is told of a flow against the document's words; its net is good.
func checkFlow(t *testing.T, f impl.Flow) {
	t.Helper()
	good := goodFlowPlainly(f)
	if is := impl.GoodFlow(f); is != good {
		t.Fatalf("%v: good %v", f, is)
	}
	if m, ok := impl.StartOf(f); ok != good || !slices.Equal(m, oneOn(f, f.From, good)) {
		t.Fatalf("%v: start %v %v", f, m, ok)
	}
	if m, ok := impl.EndOf(f); ok != good || !slices.Equal(m, oneOn(f, f.To, good)) {
		t.Fatalf("%v: end %v %v", f, m, ok)
	}
	short := impl.Net{}
	room := good && len(f.Net.Trans) < impl.MaxTrans
	if room {
		short = cloneNet(f.Net)
		short.Trans = append(short.Trans, impl.Trans{In: []int{f.To}, Out: []int{f.From}})
	}
	if n, ok := impl.ShortNet(f); ok != room || !sameNet(n, short) {
		t.Fatalf("%v: short net %v %v", f, n, ok)
	}
}

// oneOn is a mark with one token; none where the flow is not good.
func oneOn(f impl.Flow, place int, good bool) []int {
	if !good {
		return nil
	}
	m := make([]int, f.Net.Places)
	m[place] = 1
	return m
}

// checkWay holds OnWay against the document's words, and fails where it writes a list that does not rise.
func checkWay(t *testing.T, n impl.Net, from int, to int) {
	t.Helper()
	places, trans := onWayPlainly(n, from, to)
	p, x, ok := impl.OnWay(n, from, to)
	if !ok || !slices.Equal(p, places) || !slices.Equal(x, trans) {
		t.Fatalf("%v from %d to %d: %v %v %v, not %v %v", n, from, to, p, x, ok, places, trans)
	}
}

// Promise 3 of all small flows: with one transition or two of two places, with one of three.
func TestAllSmallFlows(t *testing.T) {
	nets := []impl.Net{{Places: 1}, {Places: 2}, {Places: 3}}
	for _, a := range transOf(1) {
		nets = append(nets, impl.Net{Places: 1, Trans: []impl.Trans{a}})
	}
	for _, a := range transOf(2) {
		nets = append(nets, impl.Net{Places: 2, Trans: []impl.Trans{a}})
		for _, b := range transOf(2) {
			nets = append(nets, impl.Net{Places: 2, Trans: []impl.Trans{a, b}})
		}
	}
	for _, a := range transOf(3) {
		nets = append(nets, impl.Net{Places: 3, Trans: []impl.Trans{a}})
	}
	for _, n := range nets {
		for from := -1; from <= n.Places; from++ {
			for to := -1; to <= n.Places; to++ {
				checkFlow(t, impl.Flow{Net: n, From: from, To: to})
				if from >= 0 && from < n.Places && to >= 0 && to < n.Places {
					checkWay(t, n, from, to)
				}
			}
		}
	}
}

// Promise 3 of flows of all sizes, and of what one change makes of them.
func TestFlowsOfAllKinds(t *testing.T) {
	d := dice(3)
	good, wrong := 0, 0
	for range 3000 {
		places := 2 + d.below(impl.MaxPlaces-1)
		f := someFlow(&d, places, d.below(impl.MaxTrans+2-places), d.below(2) == 0)
		if !goodFlowPlainly(f) {
			t.Fatalf("%v: not made good", f)
		}
		checkFlow(t, f)
		spoil(&d, &f)
		checkFlow(t, f)
		if goodFlowPlainly(f) {
			good++
		} else {
			wrong++
		}
	}
	if good < 300 || wrong < 300 {
		t.Errorf("of the changed flows %d are good, %d are not", good, wrong)
	}
}

// spoil changes one list of a flow, or leaves a transition out, or moves an end; the net stays good.
func spoil(d *dice, f *impl.Flow) {
	k := d.below(len(f.Net.Trans))
	list := someList(d, f.Net.Places, 4)
	switch d.below(6) {
	case 0:
		f.Net.Trans = slices.Delete(f.Net.Trans, k, k+1)
	case 1:
		f.Net.Trans[k].In = []int{d.below(f.Net.Places)}
	case 2:
		f.Net.Trans[k].Out = list
	case 3:
		f.Net.Trans[k].Reset = list
	case 4:
		f.From = d.below(f.Net.Places)
	case 5:
		f.To = d.below(f.Net.Places)
	}
}

// Promise 3 by its words: what is told good is on the way whole.
func TestGoodFlowsAreOnTheWay(t *testing.T) {
	d := dice(33)
	for _, f := range goodFlows() {
		checkAllOnWay(t, f)
	}
	for range 500 {
		places := 2 + d.below(impl.MaxPlaces-1)
		checkAllOnWay(t, someFlow(&d, places, d.below(impl.MaxTrans+2-places), true))
	}
}

func checkAllOnWay(t *testing.T, f impl.Flow) {
	t.Helper()
	p, x, ok := impl.OnWay(f.Net, f.From, f.To)
	if !impl.GoodFlow(f) || !ok {
		t.Fatalf("%v: not told good, or not told: %v %v %v", f, p, x, ok)
	}
	if !slices.Equal(p, numbersTo(f.Net.Places)) || !slices.Equal(x, numbersTo(len(f.Net.Trans))) {
		t.Fatalf("%v: on the way are %v and %v alone", f, p, x)
	}
}

func TestOnWay(t *testing.T) {
	loop := flowWith(4, impl.Trans{In: []int{2}, Out: []int{3}}, impl.Trans{In: []int{3}, Out: []int{2}}).Net
	apart := impl.Net{Places: 4, Trans: []impl.Trans{{In: []int{0}, Out: []int{1}}, {In: []int{2}, Out: []int{3}}, {In: []int{1}}, {In: []int{0}, Out: []int{2}, Reset: []int{3}}}}
	cases := []struct {
		what          string
		n             impl.Net
		from, to      int
		places, trans []int
	}{
		{"a row", flowWith(3).Net, 0, 1, []int{0, 1, 2}, []int{0, 1}},
		{"its first half", flowWith(3).Net, 0, 2, []int{0, 2}, []int{0}},
		{"its second half", flowWith(3).Net, 2, 1, []int{1, 2}, []int{1}},
		{"the wrong way round", flowWith(3).Net, 1, 0, nil, nil},
		{"the wrong way from the midst", flowWith(3).Net, 2, 0, nil, nil},
		{"from and to alike", flowWith(3).Net, 0, 0, []int{0}, nil},
		{"alike at the end", flowWith(3).Net, 1, 1, []int{1}, nil},
		{"alike in the midst", flowWith(3).Net, 2, 2, []int{2}, nil},
		{"alike, on a loop", loop, 2, 2, []int{2, 3}, []int{2, 3}},
		{"alike, on the loop's other place", loop, 3, 3, []int{2, 3}, []int{2, 3}},
		{"through a place more than once", loop, 0, 1, []int{0, 1, 2, 3}, []int{0, 1, 2, 3}},
		{"to a loop", loop, 0, 3, []int{0, 2, 3}, []int{0, 2, 3}},
		{"out of a loop", loop, 3, 1, []int{1, 2, 3}, []int{1, 2, 3}},
		{"alike, by a transition that gives back", impl.Net{Places: 1, Trans: []impl.Trans{{In: []int{0}, Out: []int{0}}}}, 0, 0, []int{0}, []int{0}},
		{"no transition, alike", impl.Net{Places: 2}, 1, 1, []int{1}, nil},
		{"no transition, unlike", impl.Net{Places: 2}, 0, 1, nil, nil},
		{"one place", impl.Net{Places: 1}, 0, 0, []int{0}, nil},
		{"no way but a Reset", apart, 1, 3, nil, nil},
		{"beside what leads nowhere", apart, 0, 1, []int{0, 1}, []int{0}},
		{"beside what comes from elsewhere", apart, 0, 3, []int{0, 2, 3}, []int{1, 3}},
		{"to the last of MaxPlaces", rowFlow(numbersTo(impl.MaxPlaces)...).Net, 0, impl.MaxPlaces - 1, numbersTo(impl.MaxPlaces), numbersTo(impl.MaxPlaces - 1)},
		{"the last of MaxPlaces alone", impl.Net{Places: impl.MaxPlaces}, impl.MaxPlaces - 1, impl.MaxPlaces - 1, []int{impl.MaxPlaces - 1}, nil},
	}
	for _, c := range cases {
		p, x, ok := impl.OnWay(c.n, c.from, c.to)
		if !ok || !slices.Equal(p, c.places) || !slices.Equal(x, c.trans) {
			t.Errorf("%s: %v %v %v", c.what, p, x, ok)
		}
	}
}

// Nets of any kind, most of them no flows, and all pairs of their places.
func TestOnWayOfAllKinds(t *testing.T) {
	d := dice(7)
	for range 300 {
		places := 1 + d.below(impl.MaxPlaces)
		n := someNet(&d, places, d.below(impl.MaxTrans+1), true)
		thin(&d, n)
		leads := waysPlainly(n)
		for from := range places {
			for to := range places {
				checkWay(t, n, from, to)
				if p, _, _ := impl.OnWay(n, from, to); (len(p) > 0) != leads[from][to] {
					t.Fatalf("%v from %d to %d: %v", n, from, to, p)
				}
			}
		}
	}
}

// thin leaves most lists one place, so that long ways are the only ones.
func thin(d *dice, n impl.Net) {
	for i := range n.Trans {
		if d.below(4) > 0 {
			n.Trans[i].In = n.Trans[i].In[:1]
		}
		if d.below(4) > 0 && len(n.Trans[i].Out) > 1 {
			n.Trans[i].Out = n.Trans[i].Out[:1]
		}
	}
}

func TestOnWayOfWrongPlaces(t *testing.T) {
	net := flowWith(3).Net
	for _, p := range wrongPlaces(3) {
		for _, ends := range [][2]int{{p, 0}, {0, p}, {p, 1}, {2, p}, {p, p}, {p, -1}, {3, p}} {
			n := guardedNet(net)
			quietly(t, "wrong places", func() {
				if l, x, ok := impl.OnWay(n, ends[0], ends[1]); len(l) != 0 || len(x) != 0 || ok {
					t.Errorf("from %d to %d: %v %v %v", ends[0], ends[1], l, x, ok)
				}
			})
			untouchedNet(t, "wrong places", n, net)
		}
	}
}

func TestStartAndEnd(t *testing.T) {
	f := rowFlow(2, 0, 3, 1)
	if m, ok := impl.StartOf(f); !ok || !slices.Equal(m, []int{0, 0, 1, 0}) {
		t.Error("start", m, ok)
	}
	if m, ok := impl.EndOf(f); !ok || !slices.Equal(m, []int{0, 1, 0, 0}) {
		t.Error("end", m, ok)
	}
	for _, f := range goodFlows() {
		checkFlow(t, f)
	}
}

func TestShortNet(t *testing.T) {
	f := flowWith(3, impl.Trans{In: []int{0, 2}, Out: []int{1, 2}, Reset: []int{2}})
	want := impl.Net{Places: 3, Trans: append(cloneNet(f.Net).Trans, impl.Trans{In: []int{1}, Out: []int{0}})}
	if n, ok := impl.ShortNet(f); !ok || !sameNet(n, want) {
		t.Error("short net", n, ok)
	}
	for _, places := range []int{2, 3, impl.MaxPlaces} {
		full := longFlow(places, impl.MaxTrans)
		if n, ok := impl.ShortNet(full); !impl.GoodFlow(full) || ok || !sameNet(n, impl.Net{}) {
			t.Errorf("MaxTrans transitions, %d places: %v %v", places, n, ok)
		}
		room := longFlow(places, impl.MaxTrans-1)
		n, ok := impl.ShortNet(room)
		if !ok || !impl.GoodNet(n) || len(n.Trans) != impl.MaxTrans {
			t.Fatalf("one fewer, %d places: %v %v", places, n, ok)
		}
		if last := n.Trans[impl.MaxTrans-1]; !slices.Equal(last.In, []int{room.To}) || !slices.Equal(last.Out, []int{room.From}) || len(last.Reset) != 0 {
			t.Errorf("one fewer, %d places: the last is %v", places, last)
		}
	}
}

// What the transition behind all others does: the end becomes the start.
func TestShortNetBeginsAnew(t *testing.T) {
	for _, f := range goodFlows() {
		n, ok := impl.ShortNet(f)
		if !ok {
			continue
		}
		end, _ := impl.EndOf(f)
		start, _ := impl.StartOf(f)
		if m, ok := impl.Fire(n, end, len(f.Net.Trans)); !ok || !slices.Equal(m, start) {
			t.Errorf("%v: %v %v", f, m, ok)
		}
	}
}

// b's From is its first, a middle and its last place; what lies beside it in a list is told behind it, or ahead.
func TestChainFlows(t *testing.T) {
	a := rowFlow(0, 2, 1)
	inner := impl.Trans{In: []int{0, 1, 2}, Out: []int{3}, Reset: []int{1}}
	cases := []struct {
		what string
		b    impl.Flow
		want []impl.Trans
		to   int
	}{
		{"first", rowFlow(0, 1), []impl.Trans{{In: []int{1}, Out: []int{3}}}, 3},
		{"last of two", rowFlow(1, 0), []impl.Trans{{In: []int{1}, Out: []int{3}}}, 3},
		{"first of three", rowFlow(0, 2, 1), []impl.Trans{{In: []int{1}, Out: []int{4}}, {In: []int{4}, Out: []int{3}}}, 3},
		{"middle", rowFlow(1, 0, 2), []impl.Trans{{In: []int{1}, Out: []int{3}}, {In: []int{3}, Out: []int{4}}}, 4},
		{"middle, to the first", rowFlow(1, 2, 0), []impl.Trans{{In: []int{1}, Out: []int{4}}, {In: []int{4}, Out: []int{3}}}, 3},
		{"last", rowFlow(2, 1, 0), []impl.Trans{{In: []int{1}, Out: []int{4}}, {In: []int{4}, Out: []int{3}}}, 3},
		{"lists with more", withTrans(rowFlow(2, 0, 1, 3), inner), []impl.Trans{
			{In: []int{1}, Out: []int{3}}, {In: []int{3}, Out: []int{4}}, {In: []int{4}, Out: []int{5}},
			{In: []int{1, 3, 4}, Out: []int{5}, Reset: []int{4}},
		}, 5},
	}
	for _, c := range cases {
		want := impl.Flow{Net: impl.Net{Places: 2 + c.b.Net.Places, Trans: slices.Concat(cloneNet(a.Net).Trans, c.want)}, From: 0, To: c.to}
		if f, ok := impl.ChainFlows(a, c.b); !ok || !sameFlow(f, want) {
			t.Errorf("%s: %v %v, not %v", c.what, f, ok, want)
		}
	}
}

func withTrans(f impl.Flow, more ...impl.Trans) impl.Flow {
	f.Net.Trans = append(f.Net.Trans, more...)
	return f
}

// checkChain holds ChainFlows of two good flows against the document's words.
func checkChain(t *testing.T, a impl.Flow, b impl.Flow) bool {
	t.Helper()
	want := chainPlainly(a, b)
	room := want.Net.Places <= impl.MaxPlaces && len(want.Net.Trans) <= impl.MaxTrans
	if !room {
		want = impl.Flow{}
	}
	f, ok := impl.ChainFlows(a, b)
	if ok != room || !sameFlow(f, want) {
		t.Fatalf("%v and %v: %v %v, not %v", a, b, f, ok, want)
	}
	if ok {
		checkAllOnWay(t, f)
		checkFlow(t, f)
	}
	return ok
}

func TestChainFlowsOfAllKinds(t *testing.T) {
	d := dice(11)
	told, none := 0, 0
	for range 3000 {
		p, q := 2+d.below(impl.MaxPlaces-4), 2+d.below(impl.MaxPlaces-4)
		a := someFlow(&d, p, d.below(8), d.below(2) == 0)
		b := someFlow(&d, q, d.below(8), d.below(2) == 0)
		if checkChain(t, a, b) {
			told++
		} else {
			none++
		}
	}
	if told < 300 || none < 300 {
		t.Errorf("of the chains %d are told, %d are not", told, none)
	}
}

// Each limit met, and gone beyond by one, whichever of the two flows is the greater.
func TestChainFlowsAtTheLimits(t *testing.T) {
	for p := 2; p < impl.MaxPlaces; p++ {
		q := impl.MaxPlaces + 1 - p
		if !checkChain(t, longFlow(p, p), longFlow(q, q-1)) {
			t.Errorf("%d places and %d: not told", p, q)
		}
		if checkChain(t, longFlow(p, p-1), longFlow(q+1, q)) || checkChain(t, longFlow(p+1, p), longFlow(q, q-1)) {
			t.Errorf("one place more than MaxPlaces: told")
		}
	}
	for x := 3; x <= impl.MaxTrans-3; x++ {
		y := impl.MaxTrans - x
		if !checkChain(t, longFlow(3, x), longFlow(4, y)) {
			t.Errorf("%d transitions and %d: not told", x, y)
		}
		if checkChain(t, longFlow(3, x), longFlow(4, y+1)) || checkChain(t, longFlow(3, x+1), longFlow(4, y)) {
			t.Errorf("one transition more than MaxTrans: told")
		}
	}
	if !checkChain(t, longFlow(8, 12), longFlow(9, 12)) {
		t.Error("both limits met: not told")
	}
	if checkChain(t, longFlow(16, 24), longFlow(16, 24)) {
		t.Error("twice as much as goes: told")
	}
}

// A row of chains is the same from whichever end it is made.
func TestChainsOfThree(t *testing.T) {
	d := dice(13)
	for range 500 {
		a, b, c := someFlow(&d, 2+d.below(4), d.below(3), true), someFlow(&d, 2+d.below(4), d.below(3), true), someFlow(&d, 2+d.below(4), d.below(3), true)
		ab, okAB := impl.ChainFlows(a, b)
		bc, okBC := impl.ChainFlows(b, c)
		x, okX := impl.ChainFlows(ab, c)
		y, okY := impl.ChainFlows(a, bc)
		if !okAB || !okBC || !okX || !okY || !sameFlow(x, y) {
			t.Fatalf("%v, %v, %v: %v %v and %v %v", a, b, c, x, okX, y, okY)
		}
	}
}

// A flow chained fires as it does alone, first the one, then the other.
func TestChainsFire(t *testing.T) {
	a, b := rowFlow(2, 0, 1), rowFlow(1, 3, 0, 2)
	f, ok := impl.ChainFlows(a, b)
	start, _ := impl.StartOf(f)
	end, _ := impl.EndOf(f)
	m, many, fired := impl.FireAll(f.Net, start, []int{0, 1, 2, 3, 4})
	if !ok || !fired || many != 5 || !slices.Equal(m, end) {
		t.Error("the chain does not come to its end", f, ok, m, many, fired)
	}
	if m, many, _ := impl.FireAll(f.Net, start, []int{0, 1, 3}); many != 2 || m[a.To] != 1 {
		t.Error("the first flow's end is not the second's start", m, many)
	}
}

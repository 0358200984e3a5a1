package tests

import (
	"math"
	"slices"
	"testing"

	"loop.example/g00662/impl"
)

// rowFlow goes through its places one behind the other, by one transition each.
func rowFlow(places ...int) impl.Flow {
	f := impl.Flow{From: places[0], To: places[len(places)-1]}
	f.Net.Places = len(places)
	for i, p := range places[1:] {
		f.Net.Trans = append(f.Net.Trans, impl.Trans{In: []int{places[i]}, Out: []int{p}})
	}
	return f
}

// longFlow has so many places, in a row, and as many transitions as are asked for: the last of the row stands there again and again.
func longFlow(places int, trans int) impl.Flow {
	f := rowFlow(numbersTo(places)...)
	last := f.Net.Trans[places-2]
	for len(f.Net.Trans) < trans {
		f.Net.Trans = append(f.Net.Trans, impl.Trans{In: slices.Clone(last.In), Out: slices.Clone(last.Out)})
	}
	return f
}

// numbersTo has the numbers below one, rising.
func numbersTo(many int) []int {
	l := make([]int, many)
	for i := range l {
		l[i] = i
	}
	return l
}

// shuffled has the numbers below one in any order.
func shuffled(d *dice, many int) []int {
	l := numbersTo(many)
	for i := range l {
		k := d.below(i + 1)
		l[i], l[k] = l[k], l[i]
	}
	return l
}

func without(l []int, unlike ...int) []int {
	return slices.DeleteFunc(slices.Clone(l), func(p int) bool { return slices.Contains(unlike, p) })
}

// someFlow is a good flow of any kind: a row through all its places in any order, and more transitions of all sorts among them.
func someFlow(d *dice, places int, more int, resets bool) impl.Flow {
	f := rowFlow(shuffled(d, places)...)
	for range more {
		t := impl.Trans{In: without(someList(d, places, 4), f.To), Out: without(someList(d, places, 3), f.From)}
		if len(t.In) == 0 {
			t.In = []int{f.From}
		}
		if len(t.Out) == 0 {
			t.Out = []int{f.To}
		}
		if resets && d.below(2) == 0 {
			t.Reset = without(someList(d, places, 3), f.From, f.To)
		}
		f.Net.Trans = slices.Insert(f.Net.Trans, d.below(len(f.Net.Trans)+1), t)
	}
	return f
}

// waysPlainly tells of any two of the places and, behind these, the transitions of a good net whether one can come from the one to the other.
func waysPlainly(n impl.Net) [][]bool {
	all := n.Places + len(n.Trans)
	leads := make([][]bool, all)
	for i := range leads {
		leads[i] = make([]bool, all)
		leads[i][i] = true
	}
	for i, t := range n.Trans {
		for _, p := range t.In {
			leads[p][n.Places+i] = true
		}
		for _, p := range t.Out {
			leads[n.Places+i][p] = true
		}
	}
	for by := range all {
		for a := range all {
			for b := range all {
				leads[a][b] = leads[a][b] || leads[a][by] && leads[by][b]
			}
		}
	}
	return leads
}

// onWayPlainly is OnWay by its words, of a good net and two places of it.
func onWayPlainly(n impl.Net, from int, to int) ([]int, []int) {
	var places, trans []int
	leads := waysPlainly(n)
	for i := range leads {
		if !leads[from][i] || !leads[i][to] {
			continue
		}
		if i < n.Places {
			places = append(places, i)
		} else {
			trans = append(trans, i-n.Places)
		}
	}
	return places, trans
}

// goodFlowPlainly is GoodFlow by its words, of a good net.
func goodFlowPlainly(f impl.Flow) bool {
	n := f.Net
	if f.From < 0 || f.From >= n.Places || f.To < 0 || f.To >= n.Places || f.From == f.To {
		return false
	}
	for _, t := range n.Trans {
		if slices.Contains(t.Out, f.From) || slices.Contains(t.In, f.To) {
			return false
		}
		if slices.Contains(t.Reset, f.From) || slices.Contains(t.Reset, f.To) {
			return false
		}
	}
	places, trans := onWayPlainly(n, f.From, f.To)
	return len(places) == n.Places && len(trans) == len(n.Trans)
}

// chainPlainly is ChainFlows by its words, of two good flows; the chain may be too great.
func chainPlainly(a impl.Flow, b impl.Flow) impl.Flow {
	becomes := make([]int, b.Net.Places)
	places := a.Net.Places
	for p := range becomes {
		if p == b.From {
			becomes[p] = a.To
			continue
		}
		becomes[p] = places
		places++
	}
	moved := func(l []int) []int {
		var out []int
		for _, p := range l {
			out = append(out, becomes[p])
		}
		slices.Sort(out)
		return out
	}
	c := impl.Flow{Net: cloneNet(a.Net), From: a.From, To: becomes[b.To]}
	c.Net.Places = places
	for _, t := range b.Net.Trans {
		c.Net.Trans = append(c.Net.Trans, impl.Trans{In: moved(t.In), Out: moved(t.Out), Reset: moved(t.Reset)})
	}
	return c
}

func sameFlow(a, b impl.Flow) bool {
	return a.From == b.From && a.To == b.To && sameNet(a.Net, b.Net)
}

func cloneFlow(f impl.Flow) impl.Flow {
	return impl.Flow{Net: cloneNet(f.Net), From: f.From, To: f.To}
}

func guardedFlow(f impl.Flow) impl.Flow {
	return impl.Flow{Net: guardedNet(f.Net), From: f.From, To: f.To}
}

// partsOf has all the lists of places of a net.
func partsOf(n impl.Net) []*[]int {
	var parts []*[]int
	for i := range n.Trans {
		parts = append(parts, &n.Trans[i].In, &n.Trans[i].Out, &n.Trans[i].Reset)
	}
	return parts
}

// ownMemory fails where two lists of a net that is made share memory.
func ownMemory(t *testing.T, what string, made func() impl.Net) {
	t.Helper()
	for i := range partsOf(made()) {
		n := made()
		kept := cloneNet(n)
		scribble(*partsOf(n)[i])
		*partsOf(n)[i], *partsOf(kept)[i] = nil, nil
		if !sameNet(n, kept) {
			t.Errorf("%s: lists of an answer share memory: %v, it was %v", what, n, kept)
		}
	}
}

// wrongPlaces are no places of so many; some of them are one where their upper bits are lost, or where they turn a shift round.
func wrongPlaces(places int) []int {
	return []int{-1, -2, -places, places, places + 1, impl.MaxPlaces, impl.MaxPlaces + 1, 64, 65, 256, 1 << 32, 1<<32 + 1, -1 << 32, math.MinInt, math.MaxInt}
}

// wrongFlow is a flow that is not good though its net is, unless the words say so.
type wrongFlow struct {
	what string
	f    impl.Flow
}

// flowWith is a good flow with From 0, To 1, the place 2 between them, and more places and transitions.
func flowWith(places int, more ...impl.Trans) impl.Flow {
	trans := []impl.Trans{{In: []int{0}, Out: []int{2}}, {In: []int{2}, Out: []int{1}}}
	return impl.Flow{Net: impl.Net{Places: places, Trans: append(trans, more...)}, From: 0, To: 1}
}

func wrongFlows() []wrongFlow {
	l := []wrongFlow{
		{"nothing at all", impl.Flow{}},
		{"no transition", impl.Flow{Net: impl.Net{Places: 2}, From: 0, To: 1}},
		{"one place, no transition", impl.Flow{Net: impl.Net{Places: 1}}},
		{"one place", impl.Flow{Net: impl.Net{Places: 1, Trans: []impl.Trans{{In: []int{0}, Out: []int{0}}}}}},
		{"a place that leads nowhere", flowWith(4, impl.Trans{In: []int{2}, Out: []int{1, 3}})},
		{"a place that leads nowhere but back to itself", flowWith(4, impl.Trans{In: []int{2}, Out: []int{3}}, impl.Trans{In: []int{3}, Out: []int{3}})},
		{"two places that lead to each other alone", flowWith(5, impl.Trans{In: []int{2}, Out: []int{3}}, impl.Trans{In: []int{3}, Out: []int{4}}, impl.Trans{In: []int{4}, Out: []int{3}})},
		{"a transition that leads nowhere", flowWith(3, impl.Trans{In: []int{2}})},
		{"a transition that leads to a place that leads nowhere", flowWith(4, impl.Trans{In: []int{2}, Out: []int{3}})},
		{"a transition that empties a place, and leads nowhere", flowWith(3, impl.Trans{In: []int{0}, Reset: []int{2}})},
		{"a place that can't be come to", flowWith(4, impl.Trans{In: []int{2, 3}, Out: []int{1}})},
		{"a place that can't be come to but from itself", flowWith(4, impl.Trans{In: []int{3}, Out: []int{1, 3}})},
		{"a transition that can't be come to", flowWith(4, impl.Trans{In: []int{3}, Out: []int{1}})},
		{"two places that can't be come to but from each other", flowWith(5, impl.Trans{In: []int{3}, Out: []int{4}}, impl.Trans{In: []int{4}, Out: []int{1, 3}})},
		{"a place apart", flowWith(4)},
		{"a place in a Reset alone", flowWith(4, impl.Trans{In: []int{2}, Out: []int{1}, Reset: []int{3}})},
		{"a place that is emptied and leads on", flowWith(4, impl.Trans{In: []int{2}, Out: []int{1}, Reset: []int{3}}, impl.Trans{In: []int{3}, Out: []int{1}})},
		{"a place that is come to and emptied", flowWith(4, impl.Trans{In: []int{0}, Out: []int{2, 3}}, impl.Trans{In: []int{2}, Out: []int{1}, Reset: []int{3}})},
		{"From in an Out", flowWith(3, impl.Trans{In: []int{2}, Out: []int{0}})},
		{"From in an Out beside To", flowWith(3, impl.Trans{In: []int{2}, Out: []int{0, 1}})},
		{"From in an Out of its own", flowWith(3, impl.Trans{In: []int{0}, Out: []int{0, 2}})},
		{"To in an In", flowWith(3, impl.Trans{In: []int{1}, Out: []int{2}})},
		{"To in an In beside From", flowWith(3, impl.Trans{In: []int{0, 1}, Out: []int{2}})},
		{"To in an In and its Out", flowWith(3, impl.Trans{In: []int{1}, Out: []int{1}})},
		{"From in a Reset", flowWith(3, impl.Trans{In: []int{2}, Out: []int{1}, Reset: []int{0}})},
		{"From in a Reset of its own", flowWith(3, impl.Trans{In: []int{0}, Out: []int{2}, Reset: []int{0}})},
		{"To in a Reset", flowWith(3, impl.Trans{In: []int{0}, Out: []int{2}, Reset: []int{1}})},
		{"To in a Reset of what gives to it", flowWith(3, impl.Trans{In: []int{2}, Out: []int{1}, Reset: []int{1, 2}})},
		{"the way the wrong way round", impl.Flow{Net: flowWith(3).Net, From: 1, To: 0}},
		{"From and To alike", impl.Flow{Net: flowWith(3).Net, From: 0, To: 0}},
		{"To and From alike", impl.Flow{Net: flowWith(3).Net, From: 1, To: 1}},
		{"From and To alike in the midst", impl.Flow{Net: flowWith(3).Net, From: 2, To: 2}},
		{"From in the midst", impl.Flow{Net: flowWith(3).Net, From: 2, To: 1}},
		{"To in the midst", impl.Flow{Net: flowWith(3).Net, From: 0, To: 2}},
	}
	for _, p := range wrongPlaces(3) {
		l = append(l,
			wrongFlow{"From is no place", impl.Flow{Net: flowWith(3).Net, From: p, To: 1}},
			wrongFlow{"To is no place", impl.Flow{Net: flowWith(3).Net, From: 0, To: p}},
			wrongFlow{"both are no place", impl.Flow{Net: flowWith(3).Net, From: p, To: p}},
		)
	}
	for _, w := range wrongNets() {
		l = append(l, wrongFlow{"the net: " + w.what, impl.Flow{Net: w.n, From: 0, To: 1}})
	}
	for _, list := range wrongLists() {
		l = append(l,
			wrongFlow{"a wrong In", flowWith(3, impl.Trans{In: list, Out: []int{1}})},
			wrongFlow{"a wrong Out", flowWith(3, impl.Trans{In: []int{2}, Out: list})},
			wrongFlow{"a wrong Reset", flowWith(3, impl.Trans{In: []int{2}, Out: []int{1}, Reset: list})},
		)
	}
	over := longFlow(3, impl.MaxTrans+1)
	far := rowFlow(numbersTo(impl.MaxPlaces + 1)...)
	return append(l, wrongFlow{"one transition more than MaxTrans", over}, wrongFlow{"one place more than MaxPlaces", far})
}

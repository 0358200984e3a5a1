package tests

import (
	"slices"
	"testing"

	"loop.example/g00662/impl"
)

// meetsPlainly tells whether two lists have a number in common.
func meetsPlainly(a []int, b []int) bool {
	return slices.ContainsFunc(a, func(p int) bool { return slices.Contains(b, p) })
}

// siphonPlainly is IsSiphon by its words, of a net and a set of its places as said.
func siphonPlainly(n impl.Net, set []int) bool {
	for _, t := range n.Trans {
		if meetsPlainly(t.Out, set) && !meetsPlainly(t.In, set) {
			return false
		}
	}
	return true
}

// trapPlainly is IsTrap by its words: what a siphon is where In and Out are changed for one another.
func trapPlainly(n impl.Net, set []int) bool {
	return siphonPlainly(turned(n), set)
}

// bigTrapPlainly is BigTrap by its words: one transition at a time, and from the first one on again.
func bigTrapPlainly(n impl.Net, set []int) []int {
	left := slices.Clone(set)
	for i := 0; i < len(n.Trans); i++ {
		if t := n.Trans[i]; meetsPlainly(t.In, left) && !meetsPlainly(t.Out, left) {
			left = without(left, t.In...)
			i = -1
		}
	}
	return left
}

// bigSiphonPlainly is BigSiphon by its words, likewise.
func bigSiphonPlainly(n impl.Net, set []int) []int {
	return bigTrapPlainly(turned(n), set)
}

// smallSiphonsPlainly is SmallSiphons by its words, of a net as said.
func smallSiphonsPlainly(n impl.Net) [][]int {
	return smallestOf(slices.DeleteFunc(listsOf(n.Places)[1:], func(set []int) bool { return !siphonPlainly(n, set) }))
}

// guardedPlainly is IsGuarded by its words, of what SmallSiphons tells and a good mark.
func guardedPlainly(n impl.Net, siphons [][]int, m []int) bool {
	return !slices.ContainsFunc(siphons, func(set []int) bool { return sumAt(m, bigTrapPlainly(n, set)) == 0 })
}

// deadPlainly tells whether nothing is enabled in a mark.
func deadPlainly(n impl.Net, m []int) bool {
	return !slices.ContainsFunc(n.Trans, func(t impl.Trans) bool { return enabledPlainly(t, m) })
}

// partsOfSet has all sets within one, the empty one first.
func partsOfSet(set []int) [][]int {
	parts := listsOf(len(set))
	for _, part := range parts {
		for i := range part {
			part[i] = set[part[i]]
		}
	}
	return parts
}

// turned has In and Out of all transitions changed for one another; it may be no good net.
func turned(n impl.Net) impl.Net {
	out := impl.Net{Places: n.Places}
	for _, t := range n.Trans {
		out.Trans = append(out.Trans, impl.Trans{In: t.Out, Out: t.In})
	}
	return out
}

// backRowNet is rowNet with its transitions the other way round in their list.
func backRowNet(places int) impl.Net {
	n := rowNet(places)
	slices.Reverse(n.Trans)
	return n
}

// roundNet takes tokens round through all its places.
func roundNet(places int) impl.Net {
	n := rowNet(places)
	n.Trans = append(n.Trans, impl.Trans{In: []int{places - 1}, Out: []int{0}})
	return n
}

// someSiphonNet is a net of any kind, or one whose transitions mostly take and give a single token or two, so that it has siphons and traps of all sizes.
func someSiphonNet(d *dice, places int, trans int) impl.Net {
	n := someNet(d, places, trans, false)
	if d.below(3) == 0 {
		return n
	}
	for i, t := range n.Trans {
		n.Trans[i].In = t.In[:min(len(t.In), 1+d.below(2))]
		n.Trans[i].Out = t.Out[:min(len(t.Out), 1+d.below(2))]
		if len(t.Out) == 0 && d.below(4) > 0 {
			n.Trans[i].Out = []int{d.below(places)}
		}
	}
	return n
}

// someFreeNet is a net whose transitions have their In alone or share it whole, and in which each place is taken from; most of them take and give as many tokens.
func someFreeNet(d *dice, places int) impl.Net {
	n := impl.Net{Places: places}
	order := shuffled(d, places)
	for len(order) > 0 {
		in := slices.Sorted(slices.Values(order[:min(len(order), 1+d.below(5)/4)]))
		order = order[len(in):]
		for range 1 + d.below(5)/3 {
			out := slices.Sorted(slices.Values(shuffled(d, places)[:min(places, len(in)+d.below(9)/8)]))
			n.Trans = append(n.Trans, impl.Trans{In: in, Out: out})
		}
	}
	return n
}

// wrongSets are no sets of so many places: they do not rise, have a place twice, or what is none.
func wrongSets(places int) [][]int {
	all, last := numbersTo(places), places-1
	l := [][]int{{0, 0}, {last, last}, append(slices.Clone(all), last), append([]int{0}, all...), append(slices.Clone(all), 0), append(slices.Clone(all), all...), filled(100, 0)}
	if places > 1 {
		back := slices.Clone(all)
		slices.Reverse(back)
		l = append(l, back, []int{1, 0}, []int{last, 0}, []int{0, last, last}, []int{0, last, 0}, append(slices.Clone(all[1:]), 0))
	}
	for _, p := range wrongPlaces(places) {
		l = append(l, []int{p}, []int{0, p}, []int{p, 0}, []int{p, p}, append(slices.Clone(all), p), append([]int{p}, all...), append([]int{p}, all[1:]...))
	}
	return l
}

// zeroOfSets fails where a function that takes a set tells something.
func zeroOfSets(t *testing.T, what string, n impl.Net, set []int) {
	t.Helper()
	if is, ok := impl.IsSiphon(n, set); is || ok {
		t.Errorf("IsSiphon of %v, %s: %v %v", set, what, is, ok)
	}
	if is, ok := impl.IsTrap(n, set); is || ok {
		t.Errorf("IsTrap of %v, %s: %v %v", set, what, is, ok)
	}
	if l, ok := impl.BigTrap(n, set); len(l) != 0 || ok {
		t.Errorf("BigTrap of %v, %s: %v %v", set, what, l, ok)
	}
	if l, ok := impl.BigSiphon(n, set); len(l) != 0 || ok {
		t.Errorf("BigSiphon of %v, %s: %v %v", set, what, l, ok)
	}
}

// zeroOfGuarded fails where IsGuarded tells something.
func zeroOfGuarded(t *testing.T, what string, n impl.Net, m []int) {
	t.Helper()
	if is, ok := impl.IsGuarded(n, m); is || ok {
		t.Errorf("IsGuarded of %v, %s: %v %v", m, what, is, ok)
	}
}

// zeroOfSmallSiphons fails where SmallSiphons tells something.
func zeroOfSmallSiphons(t *testing.T, what string, n impl.Net) {
	t.Helper()
	if l, ok := impl.SmallSiphons(n); len(l) != 0 || ok {
		t.Errorf("SmallSiphons, %s: %v %v", what, l, ok)
	}
}

// zeroOfSiphon fails where a function of the chapter tells something.
func zeroOfSiphon(t *testing.T, what string, n impl.Net, set []int, m []int) {
	t.Helper()
	for _, s := range [][]int{nil, {}, {0}, set} {
		zeroOfSets(t, what, n, s)
	}
	zeroOfSmallSiphons(t, what, n)
	zeroOfGuarded(t, what, n, m)
}

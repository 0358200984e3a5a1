package tests

import (
	"slices"
	"testing"

	"loop.example/g00662/impl"
)

// setCase is a set of places of a net, and whether it is a siphon and a trap.
type setCase struct {
	what         string
	n            impl.Net
	set          []int
	siphon, trap bool
}

func setCases() []setCase {
	row, ring := flowWith(3).Net, roundNet(2)
	burn, join, fork := netOf(2, stepOf([]int{0})), netOf(3, stepOf([]int{0, 1}, 2)), netOf(3, stepOf([]int{0}, 1, 2))
	return []setCase{
		{"empty, no transition", netOf(2), nil, true, true},
		{"empty, a row", row, nil, true, true},
		{"empty and not nil", row, []int{}, true, true},
		{"empty, what burns", burn, nil, true, true},
		{"empty, what grows", growNet(2, 1), nil, true, true},
		{"all places, no transition", netOf(3), []int{0, 1, 2}, true, true},
		{"one place, no transition", netOf(3), []int{1}, true, true},
		{"all places of a row", row, []int{0, 1, 2}, true, true},
		{"all places of a ring", ring, []int{0, 1}, true, true},
		{"all places, an empty Out", burn, []int{0, 1}, true, false},
		{"all places, an empty Out behind others", netOf(2, append(slices.Clone(ring.Trans), stepOf([]int{1}))...), []int{0, 1}, true, false},
		{"the first place of a row", row, []int{0}, true, false},
		{"the last place of a row", row, []int{1}, false, true},
		{"the midst of a row", row, []int{2}, false, false},
		{"both ends of a row", row, []int{0, 1}, false, false},
		{"the front of a row", row, []int{0, 2}, true, false},
		{"the back of a row", row, []int{1, 2}, false, true},
		{"one place of a ring", ring, []int{1}, false, false},
		{"a place with an empty Out", burn, []int{0}, true, false},
		{"a place beside an empty Out", burn, []int{1}, true, true},
		{"a place that gives back", loopNet(), []int{0}, true, true},
		{"a place that only grows", growNet(2, 1), []int{1}, false, true},
		{"a place that gives back, and to another one", growNet(2, 1), []int{0}, true, true},
		{"what is joined, one of two", join, []int{0, 2}, true, true},
		{"what is joined, the other one", join, []int{1, 2}, true, true},
		{"what is joined, all", join, []int{0, 1, 2}, true, true},
		{"what is joined, the end", join, []int{2}, false, true},
		{"what is joined, both fronts", join, []int{0, 1}, true, false},
		{"what is forked, one of two", fork, []int{0, 1}, true, true},
		{"what is forked, the other one", fork, []int{0, 2}, true, true},
		{"what is forked, both ends", fork, []int{1, 2}, false, true},
		{"what is forked, the front", fork, []int{0}, true, false},
		{"one of two transitions slips forth", netOf(3, stepOf([]int{0}, 1), stepOf([]int{1}, 0), stepOf([]int{1}, 2)), []int{0, 1}, true, false},
		{"one of two transitions slips back", netOf(3, stepOf([]int{0}, 1), stepOf([]int{1}, 0), stepOf([]int{2}, 1)), []int{0, 1}, false, true},
		{"the last of MaxTrans slips forth", netOf(2, append(slices.Repeat(loopNet().Trans, impl.MaxTrans-1), stepOf([]int{0}, 1))...), []int{0}, true, false},
		{"the last of MaxTrans slips back", netOf(2, append(slices.Repeat(loopNet().Trans, impl.MaxTrans-1), stepOf([]int{1}, 0))...), []int{0}, false, true},
		{"all of MaxPlaces, round", roundNet(impl.MaxPlaces), numbersTo(impl.MaxPlaces), true, true},
		{"all but the last of MaxPlaces, round", roundNet(impl.MaxPlaces), numbersTo(impl.MaxPlaces - 1), false, false},
		{"the last of MaxPlaces, a row", rowNet(impl.MaxPlaces), []int{impl.MaxPlaces - 1}, false, true},
		{"the first of MaxPlaces, a row", rowNet(impl.MaxPlaces), []int{0}, true, false},
		{"all but the last of MaxPlaces, a row", rowNet(impl.MaxPlaces), numbersTo(impl.MaxPlaces - 1), true, false},
	}
}

func TestIsSiphonAndIsTrap(t *testing.T) {
	for _, c := range setCases() {
		if is, ok := impl.IsSiphon(c.n, c.set); !ok || is != c.siphon {
			t.Errorf("%s: siphon %v %v", c.what, is, ok)
		}
		if is, ok := impl.IsTrap(c.n, c.set); !ok || is != c.trap {
			t.Errorf("%s: trap %v %v", c.what, is, ok)
		}
		checkSet(t, c.n, c.set)
	}
}

// A net with an empty In is not good, whatever is asked of it; with all changed for one another it is asked as before.
func TestSetsWithAnEmptyIn(t *testing.T) {
	for _, n := range []impl.Net{netOf(2, stepOf(nil, 0)), netOf(2, stepOf([]int{}, 0, 1)), netOf(2, stepOf([]int{0}, 1), stepOf(nil))} {
		for _, set := range listsOf(2) {
			zeroOfSiphon(t, "an empty In", n, set, []int{1, 1})
		}
	}
	for _, set := range listsOf(2) {
		checkSet(t, turned(netOf(2, stepOf(nil, 0))), set)
	}
}

// checkSet holds what is told of a set against the document's words and against firing; whether it is a siphon, and whether it is a trap.
func checkSet(t *testing.T, n impl.Net, set []int) (bool, bool) {
	t.Helper()
	siphon, ok := impl.IsSiphon(n, set)
	if !ok || siphon != siphonPlainly(n, set) || siphon != staysEmpty(t, n, set) {
		t.Fatalf("IsSiphon of %v in %v: %v %v", set, n, siphon, ok)
	}
	trap, ok := impl.IsTrap(n, set)
	if !ok || trap != trapPlainly(n, set) || trap != staysMarked(t, n, set) {
		t.Fatalf("IsTrap of %v in %v: %v %v", set, n, trap, ok)
	}
	l, ok := impl.BigTrap(n, set)
	if want := bigTrapPlainly(n, set); !ok || !slices.Equal(l, want) || trap != slices.Equal(l, set) {
		t.Fatalf("BigTrap of %v in %v: %v %v, not %v", set, n, l, ok, want)
	}
	if is, ok := impl.IsTrap(n, l); !is || !ok {
		t.Fatalf("BigTrap of %v in %v: %v, which is no trap", set, n, l)
	}
	l, ok = impl.BigSiphon(n, set)
	if want := bigSiphonPlainly(n, set); !ok || !slices.Equal(l, want) || siphon != slices.Equal(l, set) {
		t.Fatalf("BigSiphon of %v in %v: %v %v, not %v", set, n, l, ok, want)
	}
	if is, ok := impl.IsSiphon(n, l); !is || !ok {
		t.Fatalf("BigSiphon of %v in %v: %v, which is no siphon", set, n, l)
	}
	return siphon, trap
}

// staysEmpty tells whether nothing that is enabled gives a token to a set that has none, where all other places have one.
func staysEmpty(t *testing.T, n impl.Net, set []int) bool {
	t.Helper()
	m := onesOn(n.Places, without(numbersTo(n.Places), set...))
	l, _ := impl.Enabled(n, m)
	for _, number := range l {
		if sumAt(fired(t, n, m, number), set) > 0 {
			return false
		}
	}
	return true
}

// staysMarked tells whether each transition leaves a token on a set, where there are but those that it takes.
func staysMarked(t *testing.T, n impl.Net, set []int) bool {
	t.Helper()
	for number, x := range n.Trans {
		m := onesOn(n.Places, x.In)
		if sumAt(m, set) > 0 && sumAt(fired(t, n, m, number), set) == 0 {
			return false
		}
	}
	return true
}

// fired is the mark behind a transition.
func fired(t *testing.T, n impl.Net, m []int, number int) []int {
	t.Helper()
	behind, ok := impl.Fire(n, m, number)
	if !ok {
		t.Fatalf("Fire %d of %v in %v: not told", number, n, m)
	}
	return behind
}

// bigCase is a set with the greatest trap and the greatest siphon within it.
type bigCase struct {
	what              string
	n                 impl.Net
	set, trap, siphon []int
}

func bigCases() []bigCase {
	row, last := flowWith(3).Net, impl.MaxPlaces-1
	long, back := rowNet(impl.MaxPlaces), backRowNet(impl.MaxPlaces)
	gap := without(numbersTo(impl.MaxPlaces), 8)
	return []bigCase{
		{"empty, no transition", netOf(1), nil, nil, nil},
		{"empty, a row", row, nil, nil, nil},
		{"one already, no transition", netOf(3), []int{0, 2}, []int{0, 2}, []int{0, 2}},
		{"one already, all of a row", row, []int{0, 1, 2}, []int{0, 1, 2}, []int{0, 1, 2}},
		{"one already, a ring", roundNet(2), []int{0, 1}, []int{0, 1}, []int{0, 1}},
		{"one of them already, the front of a row", row, []int{0, 2}, nil, []int{0, 2}},
		{"one of them already, the back of a row", row, []int{1, 2}, []int{1, 2}, nil},
		{"none but the empty one, the midst of a row", row, []int{2}, nil, nil},
		{"none but the empty one, a part of a ring", roundNet(4), []int{0, 1, 3}, nil, nil},
		{"none but the empty one, an empty Out", netOf(1, stepOf([]int{0})), []int{0}, nil, []int{0}},
		{"one of each, both ends of a row", row, []int{0, 1}, []int{1}, []int{0}},
		{"a place alone is left", netOf(4, stepOf([]int{0, 1}, 2)), []int{0, 1, 3}, []int{3}, []int{0, 1, 3}},
		{"all places of an In are taken out at once", netOf(4, stepOf([]int{0, 1, 2}, 3)), []int{0, 1, 2}, nil, []int{0, 1, 2}},
		{"all places of an Out are taken out at once", netOf(4, stepOf([]int{3}, 0, 1, 2)), []int{0, 1, 2}, []int{0, 1, 2}, nil},
		{"only those of the In that are there", netOf(4, stepOf([]int{0, 1}, 2)), []int{1, 3}, []int{3}, []int{1, 3}},
		{"one of two far places is taken out, the other one holds", netOf(3, stepOf([]int{0}, 1, 2), stepOf([]int{1})), []int{0, 1, 2}, []int{0, 2}, []int{0, 1, 2}},
		{"both far places are taken out", netOf(3, stepOf([]int{0}, 1, 2), stepOf([]int{1}), stepOf([]int{2})), []int{0, 1, 2}, nil, []int{0, 1, 2}},
		{"one of two near places is taken out, the other one holds", netOf(4, stepOf([]int{0, 1}, 2), stepOf([]int{3}, 1)), []int{0, 1, 2}, []int{0, 1, 2}, []int{0, 2}},
		{"both near places are taken out", netOf(4, stepOf([]int{0, 1}, 2), stepOf([]int{3}, 1), stepOf([]int{3}, 0)), []int{0, 1, 2}, []int{0, 1, 2}, nil},
		{"again and again, from behind", long, numbersTo(last), nil, numbersTo(last)},
		{"again and again, from the front", long, numbersTo(impl.MaxPlaces)[1:], numbersTo(impl.MaxPlaces)[1:], nil},
		{"again and again, from behind, rising", back, numbersTo(last), nil, numbersTo(last)},
		{"again and again, from the front, falling", back, numbersTo(impl.MaxPlaces)[1:], numbersTo(impl.MaxPlaces)[1:], nil},
		{"again and again, up to a gap", long, gap, numbersTo(impl.MaxPlaces)[9:], numbersTo(8)},
		{"again and again, up to a gap, the other way round", back, gap, numbersTo(impl.MaxPlaces)[9:], numbersTo(8)},
		{"a place of an In that goes is that of another Out", netOf(4, stepOf([]int{0}, 1), stepOf([]int{1, 2}, 3)), []int{0, 1, 2}, nil, []int{0, 1, 2}},
		{"a trap within what is taken from", netOf(3, stepOf([]int{0}, 1), stepOf([]int{1}, 0, 1), stepOf([]int{0}, 2)), []int{0, 1}, []int{1}, []int{0, 1}},
		{"two rings, one of them burns", netOf(4, stepOf([]int{0}, 1), stepOf([]int{1}, 0), stepOf([]int{2}, 3), stepOf([]int{3}, 2), stepOf([]int{3})), []int{0, 1, 2, 3}, []int{0, 1}, []int{0, 1, 2, 3}},
		{"all of MaxPlaces, round", roundNet(impl.MaxPlaces), numbersTo(impl.MaxPlaces), numbersTo(impl.MaxPlaces), numbersTo(impl.MaxPlaces)},
		{"all but one of MaxPlaces, round", roundNet(impl.MaxPlaces), gap, nil, nil},
	}
}

func TestBigTrapAndBigSiphon(t *testing.T) {
	for _, c := range bigCases() {
		if l, ok := impl.BigTrap(c.n, c.set); !ok || !slices.Equal(l, c.trap) {
			t.Errorf("%s: trap %v %v, not %v", c.what, l, ok, c.trap)
		}
		if l, ok := impl.BigSiphon(c.n, c.set); !ok || !slices.Equal(l, c.siphon) {
			t.Errorf("%s: siphon %v %v, not %v", c.what, l, ok, c.siphon)
		}
		checkSet(t, c.n, c.set)
		if len(c.set) <= 8 {
			checkGreatest(t, c.n, c.set)
		}
	}
}

// checkGreatest holds each trap and each siphon within a set against the greatest ones: all are within these.
func checkGreatest(t *testing.T, n impl.Net, set []int) {
	t.Helper()
	trap, okTrap := impl.BigTrap(n, set)
	siphon, okSiphon := impl.BigSiphon(n, set)
	if !okTrap || !okSiphon || !within(trap, set) || !within(siphon, set) {
		t.Fatalf("of %v in %v: trap %v %v, siphon %v %v", set, n, trap, okTrap, siphon, okSiphon)
	}
	for _, part := range partsOfSet(set) {
		if is, ok := impl.IsTrap(n, part); !ok || is && !within(part, trap) {
			t.Fatalf("BigTrap of %v in %v: %v, but %v is one", set, n, trap, part)
		}
		if is, ok := impl.IsSiphon(n, part); !ok || is && !within(part, siphon) {
			t.Fatalf("BigSiphon of %v in %v: %v, but %v is one", set, n, siphon, part)
		}
	}
}

// siphonCase is a net with all of its small siphons.
type siphonCase struct {
	what string
	n    impl.Net
	want [][]int
}

// siphonCases has them by how they come about.
func siphonCases() []siphonCase {
	both := netOf(3, stepOf([]int{0}, 1, 2), stepOf([]int{1, 2}, 0))
	rings := netOf(4, stepOf([]int{0}, 1), stepOf([]int{1}, 0), stepOf([]int{2}, 3), stepOf([]int{3}, 2))
	return []siphonCase{
		{"one place alone, no transition", netOf(1), singles(1)},
		{"three places, no transition", netOf(3), singles(3)},
		{"one place alone that gives back", loopNet(), singles(1)},
		{"one place alone that burns", netOf(1, stepOf([]int{0})), singles(1)},
		{"one place alone to which nothing is given", flowWith(3).Net, [][]int{{0}}},
		{"one place alone that goes along", growNet(2, 1), [][]int{{0}}},
		{"one place alone, the last one", netOf(3, stepOf([]int{2}, 0), stepOf([]int{0}, 1)), [][]int{{2}}},
		{"all places of a ring", roundNet(3), [][]int{{0, 1, 2}}},
		{"a ring and a place alone", netOf(3, roundNet(2).Trans...), [][]int{{0, 1}, {2}}},
		{"two that share a place", both, [][]int{{0, 1}, {0, 2}}},
		{"two that share all but one place", netOf(4, stepOf([]int{0}, 1), stepOf([]int{1}, 2, 3), stepOf([]int{2, 3}, 0)), [][]int{{0, 1, 2}, {0, 1, 3}}},
		{"a set that holds two others is left out", rings, [][]int{{0, 1}, {2, 3}}},
		{"a set that holds one place alone is left out", netOf(3, stepOf([]int{0}, 1), stepOf([]int{1}, 2), stepOf([]int{2}, 1)), [][]int{{0}}},
		{"a set that holds another one, whose rest is none", netOf(3, stepOf([]int{0}, 1), stepOf([]int{1}, 0, 2)), [][]int{{0, 1}}},
		{"either of a join is enough", netOf(3, stepOf([]int{0, 1}, 2)), [][]int{{0}, {1}}},
		{"two transitions give, so both are asked", netOf(4, stepOf([]int{0}, 2), stepOf([]int{1}, 2), stepOf([]int{2, 3}, 0, 1)), [][]int{{0, 1, 2}, {3}}},
		{"two transitions give to one place", netOf(3, stepOf([]int{0}, 2), stepOf([]int{1}, 2), stepOf([]int{2}, 0, 1)), [][]int{{0, 1, 2}}},
		{"each with each", netOf(4, stepOf([]int{0, 1}, 2, 3), stepOf([]int{2, 3}, 0, 1)), [][]int{{0, 2}, {1, 2}, {0, 3}, {1, 3}}},
	}
}

// siphonCasesOfOrder are of sets whose order is told by numbers alone, and of as many places as there may be.
func siphonCasesOfOrder() []siphonCase {
	pair := func(a int, b int) []impl.Trans {
		return []impl.Trans{stepOf([]int{a}, b), stepOf([]int{b}, a)}
	}
	most := netOf(maxInvPlaces)
	for p := range maxInvPlaces {
		most.Trans = append(most.Trans, stepOf(without(numbersTo(maxInvPlaces), p), p))
	}
	var pairs [][]int
	for q := range maxInvPlaces {
		for p := range q {
			pairs = append(pairs, []int{p, q})
		}
	}
	return []siphonCase{
		{"the one whose greatest place is less goes ahead", netOf(4, append(pair(1, 2), pair(0, 3)...)...), [][]int{{1, 2}, {0, 3}}},
		{"a longer one goes ahead", netOf(4, roundNet(3).Trans...), [][]int{{0, 1, 2}, {3}}},
		{"a shorter one goes ahead", netOf(4, stepOf([]int{1}, 2), stepOf([]int{2}, 3), stepOf([]int{3}, 1)), [][]int{{0}, {1, 2, 3}}},
		{"the second greatest place counts where the greatest are alike", netOf(4, stepOf([]int{3}, 1, 2), stepOf([]int{1, 2}, 3)), [][]int{{0}, {1, 3}, {2, 3}}},
		{"the third, too", netOf(5, stepOf([]int{4}, 3), stepOf([]int{3}, 1, 2), stepOf([]int{1, 2}, 4)), [][]int{{0}, {1, 3, 4}, {2, 3, 4}}},
		{"the numbers are as much in all", netOf(5, append(pair(2, 3), stepOf([]int{0}, 1), stepOf([]int{1}, 4), stepOf([]int{4}, 0))...), [][]int{{2, 3}, {0, 1, 4}}},
		{"10 places, no transition", netOf(maxInvPlaces), singles(maxInvPlaces)},
		{"10 places, one set", roundNet(maxInvPlaces), [][]int{numbersTo(maxInvPlaces)}},
		{"10 places, all but the last", netOf(maxInvPlaces, roundNet(9).Trans...), [][]int{numbersTo(9), {9}}},
		{"10 places, the last alone", netOf(maxInvPlaces, stepOf([]int{9}, 0, 1, 2, 3, 4, 5, 6, 7, 8)), [][]int{{9}}},
		{"10 places in pairs", netOf(maxInvPlaces, slices.Concat(pair(0, 9), pair(1, 8), pair(2, 7), pair(3, 6), pair(4, 5))...), [][]int{{4, 5}, {3, 6}, {2, 7}, {1, 8}, {0, 9}}},
		{"10 places, any two", most, pairs},
		{"10 places, MaxTrans", netOf(maxInvPlaces, slices.Repeat([]impl.Trans{stepOf(numbersTo(9), 9), stepOf([]int{9}, numbersTo(9)...)}, impl.MaxTrans/2)...), crossedWith(9)},
	}
}

func TestSmallSiphons(t *testing.T) {
	for _, c := range append(siphonCases(), siphonCasesOfOrder()...) {
		if l, ok := impl.SmallSiphons(c.n); !ok || !sameRows(l, c.want) {
			t.Errorf("%s: %v %v, not %v", c.what, l, ok, c.want)
		}
		checkSmallSiphons(t, c.n)
	}
}

// One place more than 10, be it one that no transition has, and nothing is told; what does not go through all sets tells it as before.
func TestSiphonsOfTooManyPlaces(t *testing.T) {
	for places := maxInvPlaces + 1; places <= impl.MaxPlaces; places++ {
		for _, n := range []impl.Net{{Places: places}, {Places: places, Trans: loopNet().Trans}, rowNet(places), roundNet(places), growNet(places, 1), gridNet(places)} {
			zeroOfSmallSiphons(t, "too many places", n)
			for _, m := range [][]int{filled(places, 0), filled(places, 1), filled(places, impl.MaxTokens)} {
				zeroOfGuarded(t, "too many places", n, m)
			}
			checkSet(t, n, numbersTo(places))
			checkSet(t, n, numbersTo(places-1))
			checkSet(t, n, []int{places - 1})
		}
	}
}

// checkSmallSiphons holds what is told of small siphons against the document's words. There always is one: since no In is empty, all places together are a siphon.
func checkSmallSiphons(t *testing.T, n impl.Net) [][]int {
	t.Helper()
	want := smallSiphonsPlainly(n)
	if l, ok := impl.SmallSiphons(n); !ok || len(l) == 0 || !sameRows(l, want) {
		t.Fatalf("SmallSiphons of %v: %v %v, not %v", n, l, ok, want)
	}
	if is, ok := impl.IsSiphon(n, numbersTo(n.Places)); !is || !ok {
		t.Fatalf("IsSiphon of all places of %v: %v %v", n, is, ok)
	}
	for _, set := range want {
		if is, ok := impl.IsSiphon(n, set); !is || !ok {
			t.Fatalf("IsSiphon of %v in %v: %v %v", set, n, is, ok)
		}
		for i := range set {
			if l, ok := impl.BigSiphon(n, without(set, set[i])); !ok || len(l) != 0 {
				t.Fatalf("BigSiphon within %v in %v: %v %v", set, n, l, ok)
			}
		}
	}
	return want
}

// guardCase is a mark of a net, and whether the net is guarded by it.
type guardCase struct {
	what string
	n    impl.Net
	m    []int
	want bool
}

func guardCases() []guardCase {
	row, ring, burn := flowWith(3).Net, roundNet(2), netOf(1, stepOf([]int{0}))
	both := netOf(3, stepOf([]int{0}, 1, 2), stepOf([]int{1, 2}, 0))
	part := netOf(3, stepOf([]int{0}, 1), stepOf([]int{1}, 0, 1), stepOf([]int{0}, 2))
	rings := netOf(4, stepOf([]int{0}, 1), stepOf([]int{1}, 0), stepOf([]int{2}, 3), stepOf([]int{3}, 2))
	loops := netOf(2, stepOf([]int{0}, 0), stepOf([]int{1}, 1))
	return []guardCase{
		{"no transition, a token on each place", netOf(2), []int{1, 3}, true},
		{"no transition, a place without a token", netOf(2), []int{1, 0}, false},
		{"no transition, no token", netOf(1), []int{0}, false},
		{"each has a marked trap, a ring", ring, []int{1, 0}, true},
		{"each has a marked trap, elsewhere on the ring", ring, []int{0, 1}, true},
		{"each has a marked trap, as many tokens as can be", ring, []int{impl.MaxTokens, impl.MaxTokens}, true},
		{"a trap without a token, a ring", ring, []int{0, 0}, false},
		{"each has a marked trap, two that share a place", both, []int{1, 0, 0}, true},
		{"each has a marked trap, on the places that they do not share", both, []int{0, 1, 1}, true},
		{"a trap without a token, one of two", both, []int{0, 1, 0}, false},
		{"a trap without a token, the other one", both, []int{0, 0, impl.MaxTokens}, false},
		{"each has a marked trap, two rings", rings, []int{0, 1, 1, 0}, true},
		{"a trap without a token, the first of two rings", rings, []int{0, 0, 1, 1}, false},
		{"a trap without a token, the second of two rings", rings, []int{1, 1, 0, 0}, false},
		{"no trap but the empty one, a row", row, []int{1, 0, 0}, false},
		{"no trap but the empty one, however many tokens", row, filled(3, impl.MaxTokens), false},
		{"no trap but the empty one, what burns", burn, []int{1}, false},
		{"no trap but the empty one, beside a ring that has one", netOf(3, append(roundNet(2).Trans, stepOf([]int{2}))...), []int{1, 1, 1}, false},
		{"the token is on the part of the siphon that is its trap", part, []int{0, 1, 0}, true},
		{"the token is on another part of the siphon", part, []int{1, 0, 0}, false},
		{"the token is beside the siphon", part, []int{0, 0, 1}, false},
		{"what gives back", loopNet(), []int{1}, true},
		{"what would give back", loopNet(), []int{0}, false},
		{"what grows", growNet(2, 1), []int{1, 0}, true},
		{"what would grow", growNet(2, 1), []int{0, 1}, false},
		{"not guarded, and never dead", loops, []int{1, 0}, false},
		{"10 places", roundNet(maxInvPlaces), append(filled(9, 0), 1), true},
		{"10 places, no token", roundNet(maxInvPlaces), filled(10, 0), false},
		{"10 places, no transition", netOf(maxInvPlaces), filled(10, 1), true},
		{"10 places, no transition, the last one is empty", netOf(maxInvPlaces), append(filled(9, 1), 0), false},
		{"10 places, what burns", gridNet(maxInvPlaces), filled(10, 1), false},
	}
}

func TestIsGuarded(t *testing.T) {
	for _, c := range guardCases() {
		if is, ok := impl.IsGuarded(c.n, c.m); !ok || is != c.want {
			t.Errorf("%s: %v %v", c.what, is, ok)
		}
		checkGuarded(t, c.n, c.m)
	}
}

// checkGuarded holds IsGuarded against the document's words; a net that is guarded in a mark has something enabled in it, or no transition at all.
func checkGuarded(t *testing.T, n impl.Net, m []int) bool {
	t.Helper()
	is, ok := impl.IsGuarded(n, m)
	if !ok || is != guardedPlainly(n, smallSiphonsPlainly(n), m) {
		t.Fatalf("IsGuarded of %v in %v: %v %v", m, n, is, ok)
	}
	if is && len(n.Trans) > 0 && deadPlainly(n, m) {
		t.Fatalf("IsGuarded of %v in %v: true, but it is dead", m, n)
	}
	return is
}

// checkNeverDead holds Commoner's words against so many marks that can be come to: each of them is guarded too, and none is dead.
func checkNeverDead(t *testing.T, n impl.Net, start []int, most int) {
	t.Helper()
	for _, m := range metFreely(n, start, most) {
		if len(n.Trans) > 0 && deadPlainly(n, m) {
			t.Fatalf("IsGuarded of %v in %v: true, but it comes to %v, where it is dead", start, n, m)
		}
		if slices.Max(m) > impl.MaxTokens {
			continue
		}
		if is, ok := impl.IsGuarded(n, m); !is || !ok {
			t.Fatalf("IsGuarded of %v in %v: true, but of %v, to which it comes: %v %v", start, n, m, is, ok)
		}
	}
}

// All nets with up to two transitions of one place and of two, and with one of three; all their sets and all marks of few tokens.
func TestAllSmallSiphons(t *testing.T) {
	guarded, others := 0, 0
	for _, n := range smallNets(3) {
		checkSmallSiphons(t, n)
		for _, set := range listsOf(n.Places) {
			checkSet(t, n, set)
			checkGreatest(t, n, set)
		}
		if len(n.Trans) == 2 && n.Places == 3 {
			continue
		}
		for _, m := range marksUpTo(n.Places, 2) {
			if !checkGuarded(t, n, m) {
				others++
				continue
			}
			guarded++
			checkNeverDead(t, n, m, 30)
		}
	}
	if guarded < 300 || others < 300 {
		t.Errorf("only %d guarded, %d not", guarded, others)
	}
}

// Promise 8, its first two parts, and all the rest of what is told of sets, of nets of all sizes.
func TestSetsOfAllKinds(t *testing.T) {
	d := dice(81)
	kinds, smaller, steps := map[[2]bool]int{}, 0, 0
	for range 3000 {
		places := 1 + d.below(impl.MaxPlaces)
		n := someSiphonNet(&d, places, d.below([]int{6, impl.MaxTrans + 1}[d.below(2)]))
		set := someList(&d, places, 1+d.below(3))
		trap := bigTrapPlainly(n, set)
		siphon := bigSiphonPlainly(n, set)
		for _, s := range [][]int{set, trap, siphon, bigTrapPlainly(n, siphon)} {
			is, also := checkSet(t, n, s)
			if len(s) > 0 {
				kinds[[2]bool{is, also}]++
			}
		}
		if len(set) <= 6 {
			checkGreatest(t, n, set)
		}
		if len(trap) > 0 && len(trap) < len(set) {
			smaller++
		}
		steps += checkSetsByFiring(t, &d, n, siphon, trap)
	}
	if kinds[[2]bool{true, true}] < 500 || kinds[[2]bool{true, false}] < 500 || kinds[[2]bool{false, true}] < 500 || kinds[[2]bool{false, false}] < 500 || smaller < 200 || steps < 5000 {
		t.Errorf("only %v, %d smaller ones, %d steps", kinds, smaller, steps)
	}
}

// checkSetsByFiring holds a siphon and a trap against firings: an empty siphon stays so, a marked trap keeps a token; how many firings these were.
func checkSetsByFiring(t *testing.T, d *dice, n impl.Net, siphon []int, trap []int) int {
	t.Helper()
	m := someMark(d, n.Places, 2)
	for _, p := range siphon {
		m[p] = 0
	}
	emptied, steps := m, 0
	seq, behind := someRun(t, d, n, m)
	for _, number := range seq {
		m = fired(t, n, m, number)
		if sumAt(m, siphon) > 0 {
			t.Fatalf("the siphon %v of %v, empty in %v, has a token in %v", siphon, n, emptied, m)
		}
	}
	if !slices.Equal(m, behind) {
		t.Fatalf("%v behind %v of %v in %v, not %v", m, seq, emptied, n, behind)
	}
	steps += len(seq)
	if len(trap) == 0 {
		return steps
	}
	marked := onesOn(n.Places, trap[d.below(len(trap)):][:1])
	for _, p := range without(numbersTo(n.Places), trap...) {
		marked[p] = d.below(3)
	}
	m = marked
	seq, _ = someRun(t, d, n, m)
	for _, number := range seq {
		m = fired(t, n, m, number)
		if sumAt(m, trap) == 0 {
			t.Fatalf("the trap %v of %v, marked in %v, has no token in %v", trap, n, marked, m)
		}
	}
	return steps + len(seq)
}

// Promise 8, its third part, and SmallSiphons, of nets of all sizes, those without an end among them.
func TestGuardedOfAllKinds(t *testing.T) {
	d := dice(8)
	guarded, others, sets, long, dead, empty := 0, 0, 0, 0, 0, 0
	for range 1500 {
		places := 1 + d.below(maxInvPlaces)
		n := someSiphonNet(&d, places, d.below(14))
		if d.below(3) == 0 {
			n = someFreeNet(&d, places)
		}
		for _, set := range checkSmallSiphons(t, n) {
			sets++
			if len(set) > 2 {
				long++
			}
			if l, _ := impl.BigTrap(n, set); len(l) == 0 {
				empty++
			}
		}
		start := someMark(&d, places, 1+d.below(2))
		if !checkGuarded(t, n, start) {
			others++
			if deadPlainly(n, start) {
				dead++
			}
			continue
		}
		guarded++
		checkNeverDead(t, n, start, 40)
	}
	if guarded < 100 || others < 100 || sets < 1000 || long < 300 || dead < 20 || empty < 300 {
		t.Errorf("only %d guarded, %d not, %d sets, %d long ones, %d dead ones, %d without a trap", guarded, others, sets, long, dead, empty)
	}
}

// Promise 8, its third part, held against all marks that can be come to, as FirstDead tells of them. (Where each transition shares its In whole or not at all, and each place is taken from, a net is live just where it is guarded.)
func TestGuardedNetsAreNeverDead(t *testing.T) {
	d := dice(82)
	guarded, dead, live, lost := 0, 0, 0, 0
	for range 1500 {
		places := 1 + d.below(7)
		n := someFreeNet(&d, places)
		free := d.below(3) > 0
		if !free {
			n = someSpaceNet(&d, places, 1+d.below(8))
		}
		start := someMark(&d, places, 1)
		_, code, _ := impl.Explore(n, start, impl.MaxMarks)
		is, ok := impl.IsGuarded(n, start)
		if resets, _ := impl.HasResets(n); ok == resets {
			t.Fatalf("IsGuarded of %v in %v: %v %v", start, n, is, ok)
		}
		if code != impl.SpAll || !ok {
			continue
		}
		m, found := impl.FirstDead(n, start, impl.MaxMarks)
		if is && found {
			t.Fatalf("IsGuarded of %v in %v: true, but it comes to %v, where it is dead", start, n, m)
		}
		if is {
			guarded++
		}
		if found {
			dead++
		}
		if !free {
			continue
		}
		if alive, _ := impl.IsLive(n, start, impl.MaxMarks); alive != is {
			t.Fatalf("IsGuarded of %v in %v: %v, but live: %v", start, n, is, alive)
		}
		if is {
			live++
		} else {
			lost++
		}
	}
	if guarded < 100 || dead < 100 || live < 100 || lost < 100 {
		t.Errorf("only %d guarded, %d dead, %d live, %d not", guarded, dead, live, lost)
	}
}

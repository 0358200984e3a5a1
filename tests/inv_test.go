package tests

import (
	"slices"
	"testing"

	"loop.example/g00662/impl"
)

func TestInvLimit(t *testing.T) {
	if impl.MaxWeight != 9 {
		t.Error("MaxWeight is not the document's")
	}
}

// A place that is in In, in Out, in both and in none, with a transition that is counted 0 times, once and as often as can be.
func TestChangeByAtOnePlace(t *testing.T) {
	cases := []struct {
		what string
		t    impl.Trans
		want int
	}{
		{"in none", impl.Trans{In: []int{0}, Out: []int{2}}, 0},
		{"in In", impl.Trans{In: []int{1}}, -1},
		{"in In, behind another", impl.Trans{In: []int{0, 1}, Out: []int{0, 2}}, -1},
		{"in Out", impl.Trans{In: []int{0}, Out: []int{1}}, 1},
		{"in Out, behind another", impl.Trans{In: []int{0, 2}, Out: []int{0, 1}}, 1},
		{"in both", impl.Trans{In: []int{1}, Out: []int{1}}, 0},
		{"in both, among others", impl.Trans{In: []int{0, 1, 2}, Out: []int{1, 2}}, 0},
	}
	for _, c := range cases {
		n := impl.Net{Places: 3, Trans: []impl.Trans{c.t}}
		for _, count := range []int{0, 1, 2, 7, 999, maxCount} {
			l, ok := impl.ChangeBy(n, []int{count})
			if !ok || len(l) != 3 || l[1] != c.want*count {
				t.Errorf("%s, counted %d times: %v %v", c.what, count, l, ok)
			}
		}
	}
}

func TestChangeBy(t *testing.T) {
	last := impl.MaxPlaces - 1
	all := impl.Net{Places: impl.MaxPlaces, Trans: slices.Repeat([]impl.Trans{{In: numbersTo(last), Out: []int{last}}}, impl.MaxTrans)}
	row := flowWith(3).Net
	cases := []struct {
		what         string
		n            impl.Net
		counts, want []int
	}{
		{"no transition", impl.Net{Places: 2}, nil, []int{0, 0}},
		{"no transition, MaxPlaces", impl.Net{Places: impl.MaxPlaces}, []int{}, filled(impl.MaxPlaces, 0)},
		{"a row, none", row, []int{0, 0}, []int{0, 0, 0}},
		{"a row, the first", row, []int{1, 0}, []int{-1, 0, 1}},
		{"a row, the second", row, []int{0, 1}, []int{0, 1, -1}},
		{"a row, both", row, []int{1, 1}, []int{-1, 1, 0}},
		{"a row, more of the second", row, []int{2, 5}, []int{-2, 5, -3}},
		{"a row, as many as can be", row, []int{maxCount, maxCount}, []int{-maxCount, maxCount, 0}},
		{"two take and give at one place", netToAsk(), []int{3, maxCount, 4}, []int{1, 3, -1}},
		{"what is given back changes nothing", loopNet(), []int{maxCount}, []int{0}},
		{"all of MaxTrans, as many as can be", all, filled(impl.MaxTrans, maxCount), append(filled(last, -24000), 24000)},
		{"the last of MaxTrans", all, append(filled(impl.MaxTrans-1, 0), 3), append(filled(last, -3), 3)},
	}
	for _, c := range cases {
		if l, ok := impl.ChangeBy(c.n, c.counts); !ok || !slices.Equal(l, c.want) {
			t.Errorf("%s: %v %v, not %v", c.what, l, ok, c.want)
		}
		checkCounts(t, c.n, c.counts)
	}
}

// checkCounts holds what is told of counts against the document's words.
func checkCounts(t *testing.T, n impl.Net, counts []int) bool {
	t.Helper()
	want := changePlainly(n, counts)
	if l, ok := impl.ChangeBy(n, counts); !ok || !slices.Equal(l, want) {
		t.Fatalf("ChangeBy %v in %v: %v %v, not %v", counts, n, l, ok, want)
	}
	cycle := slices.Equal(want, filled(n.Places, 0))
	if is, ok := impl.IsCycle(n, counts); !ok || is != cycle {
		t.Fatalf("IsCycle of %v in %v: %v %v", counts, n, is, ok)
	}
	return cycle
}

func TestCountsOf(t *testing.T) {
	row := flowWith(3).Net
	many := impl.Net{Places: 1, Trans: slices.Repeat([]impl.Trans{{In: []int{0}}}, impl.MaxTrans)}
	cases := []struct {
		what      string
		n         impl.Net
		seq, want []int
	}{
		{"an empty list", row, nil, []int{0, 0}},
		{"an empty list that is not nil", row, []int{}, []int{0, 0}},
		{"an empty list, no transition", impl.Net{Places: 1}, nil, nil},
		{"the first", row, []int{0}, []int{1, 0}},
		{"the second", row, []int{1}, []int{0, 1}},
		{"one again and again", row, []int{1, 1, 1, 1}, []int{0, 4}},
		{"both, in any order", row, []int{1, 0, 1, 1, 0}, []int{2, 3}},
		{"no matter whether they can fire", row, []int{1, 1, 1, 0}, []int{1, 3}},
		{"one of three is not there", netToAsk(), []int{2, 0, 2}, []int{1, 0, 2}},
		{"MaxSeq numbers", row, slices.Repeat([]int{0, 1, 1}, impl.MaxSeq/3), []int{20, 40}},
		{"MaxSeq of one number", row, filled(impl.MaxSeq, 1), []int{0, impl.MaxSeq}},
		{"MaxTrans", many, numbersTo(impl.MaxTrans), filled(impl.MaxTrans, 1)},
		{"the last of MaxTrans", many, filled(3, impl.MaxTrans-1), append(filled(impl.MaxTrans-1, 0), 3)},
	}
	for _, c := range cases {
		if l, ok := impl.CountsOf(c.n, c.seq); !ok || !slices.Equal(l, c.want) {
			t.Errorf("%s: %v %v, not %v", c.what, l, ok, c.want)
		}
	}
	zeroOfCountsOf(t, "one number more than MaxSeq", row, filled(impl.MaxSeq+1, 0))
	zeroOfCountsOf(t, "one number more than MaxSeq, of all transitions", many, slices.Repeat([]int{0, 1, 2, 3}, 16)[:impl.MaxSeq+1])
	zeroOfCountsOf(t, "a great many numbers", row, filled(1000, 1))
}

func TestIsInvariant(t *testing.T) {
	row, most := flowWith(3).Net, impl.MaxWeight
	fork := impl.Net{Places: 3, Trans: []impl.Trans{{In: []int{0}, Out: []int{1, 2}}}}
	join := impl.Net{Places: 3, Trans: []impl.Trans{{In: []int{1, 2}, Out: []int{0}}}}
	burn := impl.Net{Places: impl.MaxPlaces, Trans: []impl.Trans{{In: numbersTo(impl.MaxPlaces)}}}
	cases := []struct {
		what    string
		n       impl.Net
		weights []int
		want    bool
	}{
		{"no transition", impl.Net{Places: 2}, []int{most, -most}, true},
		{"no weight", row, []int{0, 0, 0}, true},
		{"no weight, of what grows", growNet(2, 1), []int{0, 0}, true},
		{"a row, the same on all", row, []int{1, 1, 1}, true},
		{"a row, MaxWeight", row, filled(3, most), true},
		{"a row, less MaxWeight", row, filled(3, -most), true},
		{"a row, the first transition changes it", row, []int{2, 1, 1}, false},
		{"a row, the second transition changes it", row, []int{1, 2, 1}, false},
		{"a row, both change it, and change it back", row, []int{1, 1, 2}, false},
		{"a row, one is below 0", row, []int{1, 1, -1}, false},
		{"a fork, one for both", fork, []int{2, 1, 1}, true},
		{"a fork, the same on all", fork, []int{1, 1, 1}, false},
		{"a fork, one of two ways", fork, []int{1, 0, 1}, true},
		{"a fork, one is below 0", fork, []int{-1, most - 1, -most}, true},
		{"a fork, the two together weigh nothing", fork, []int{0, most, -most}, true},
		{"a fork, more than MaxWeight", fork, []int{most, most, 1}, false},
		{"a join", join, []int{2, 1, 1}, true},
		{"a join, the same on all", join, []int{-1, -1, -1}, false},
		{"what is given back", loopNet(), []int{most}, true},
		{"a place that grows weighs nothing", growNet(2, 1), []int{most, 0}, true},
		{"a place that grows weighs something", growNet(2, 1), []int{most, -1}, false},
		{"burnt, each against another one", burn, slices.Repeat([]int{most, -most}, impl.MaxPlaces/2), true},
		{"burnt, and not quite so", burn, append(slices.Repeat([]int{most, -most}, impl.MaxPlaces/2-1), most, 1-most), false},
		{"burnt, the last place alone", burn, append(filled(impl.MaxPlaces-1, 0), 1), false},
		{"two transitions of which one changes it", impl.Net{Places: 2, Trans: []impl.Trans{{In: []int{0}, Out: []int{1}}, {In: []int{0, 1}, Out: []int{1}}}}, []int{1, 1}, false},
		{"the last of MaxTrans changes it", impl.Net{Places: 2, Trans: append(slices.Repeat([]impl.Trans{{In: []int{0}, Out: []int{0}}}, impl.MaxTrans-1), impl.Trans{In: []int{0}, Out: []int{1}})}, []int{1, 2}, false},
	}
	for _, c := range cases {
		if is, ok := impl.IsInvariant(c.n, c.weights); !ok || is != c.want {
			t.Errorf("%s: %v %v", c.what, is, ok)
		}
		checkWeights(t, c.n, c.weights)
	}
}

// checkWeights holds IsInvariant against the document's words, and against firing each transition from one token on all places.
func checkWeights(t *testing.T, n impl.Net, weights []int) bool {
	t.Helper()
	want := invariantPlainly(n, weights)
	is, ok := impl.IsInvariant(n, weights)
	if !ok || is != want {
		t.Fatalf("IsInvariant of %v in %v: %v %v", weights, n, is, ok)
	}
	m := filled(n.Places, 1)
	same := true
	for number := range n.Trans {
		same = same && weighsAsMuch(t, n, weights, m, []int{number})
	}
	if same != is {
		t.Fatalf("IsInvariant of %v in %v: %v, but each firing weighs as much: %v", weights, n, is, same)
	}
	return is
}

// weighsAsMuch tells whether a mark weighs as much ahead of some firings and behind them.
func weighsAsMuch(t *testing.T, n impl.Net, weights []int, m []int, seq []int) bool {
	t.Helper()
	behind, many, ok := impl.FireAll(n, m, seq)
	if !ok || many != len(seq) {
		t.Fatalf("FireAll %v of %v in %v: %v, %d %v", seq, n, m, behind, many, ok)
	}
	return checkWeight(t, n, weights, m) == checkWeight(t, n, weights, behind)
}

// checkWeight holds WeightOf against the document's words.
func checkWeight(t *testing.T, n impl.Net, weights []int, m []int) int {
	t.Helper()
	k, ok := impl.WeightOf(n, weights, m)
	if !ok || k != weightPlainly(weights, m) {
		t.Fatalf("WeightOf %v by %v in %v: %v %v", m, weights, n, k, ok)
	}
	return k
}

func TestWeightOf(t *testing.T) {
	row, most, full := flowWith(3).Net, impl.MaxWeight, impl.MaxTokens
	wide := impl.Net{Places: impl.MaxPlaces}
	cases := []struct {
		what       string
		n          impl.Net
		weights, m []int
		want       int
	}{
		{"no token", row, []int{1, 2, 3}, []int{0, 0, 0}, 0},
		{"no weight", row, []int{0, 0, 0}, []int{4, 5, full}, 0},
		{"each token once", row, []int{1, 1, 1}, []int{4, 5, 6}, 15},
		{"each place its own", row, []int{2, 3, 7}, []int{4, 5, 6}, 65},
		{"below 0", row, []int{-2, 0, -1}, []int{4, 5, 6}, -14},
		{"some below 0", row, []int{1, 1, -1}, []int{1, 0, 2}, -1},
		{"one against another one", row, []int{most, -most, 0}, []int{7, 7, 9}, 0},
		{"no matter whether they are an invariant", growNet(2, 1), []int{1, most}, []int{1, 3}, 28},
		{"one place", loopNet(), []int{-most}, []int{full}, -450},
		{"as much as can be", wide, filled(impl.MaxPlaces, most), filled(impl.MaxPlaces, full), 7200},
		{"as little as can be", wide, filled(impl.MaxPlaces, -most), filled(impl.MaxPlaces, full), -7200},
		{"the last place", wide, append(filled(impl.MaxPlaces-1, 0), most), append(filled(impl.MaxPlaces-1, full), 2), 18},
	}
	for _, c := range cases {
		if k, ok := impl.WeightOf(c.n, c.weights, c.m); !ok || k != c.want {
			t.Errorf("%s: %v %v, not %d", c.what, k, ok, c.want)
		}
		checkWeight(t, c.n, c.weights, c.m)
	}
}

func TestIsCycle(t *testing.T) {
	row, ring := flowWith(3).Net, impl.Net{Places: 2, Trans: []impl.Trans{{In: []int{0}, Out: []int{1}}, {In: []int{1}, Out: []int{0}}}}
	cases := []struct {
		what   string
		n      impl.Net
		counts []int
		want   bool
	}{
		{"no transition", impl.Net{Places: 2}, nil, true},
		{"counts that are all 0", row, []int{0, 0}, true},
		{"all 0, of what grows", growNet(2, 1), []int{0}, true},
		{"a row", row, []int{1, 1}, false},
		{"the first of a row", row, []int{1, 0}, false},
		{"there and back", ring, []int{1, 1}, true},
		{"there and back, as often as can be", ring, []int{maxCount, maxCount}, true},
		{"there once more than back", ring, []int{maxCount, maxCount - 1}, false},
		{"back once more than there", ring, []int{2, 3}, false},
		{"what is given back", loopNet(), []int{maxCount}, true},
		{"as much is there in all, but elsewhere", ring, []int{5, 0}, false},
		{"the last place alone grows", growNet(impl.MaxPlaces, impl.MaxPlaces-1), []int{1}, false},
		{"a fork and two ways back", impl.Net{Places: 3, Trans: []impl.Trans{{In: []int{0}, Out: []int{0, 1, 2}}, {In: []int{1}}, {In: []int{2}}}}, []int{6, 6, 6}, true},
		{"a fork and one way back", impl.Net{Places: 3, Trans: []impl.Trans{{In: []int{0}, Out: []int{0, 1, 2}}, {In: []int{1}}, {In: []int{2}}}}, []int{6, 6, 5}, false},
		{"what two of them take one gives twice", impl.Net{Places: 2, Trans: []impl.Trans{{In: []int{0}, Out: []int{0, 1}}, {In: []int{0, 1}, Out: []int{0}}, {In: []int{1}}}}, []int{4, 1, 3}, true},
		{"all of MaxTrans", impl.Net{Places: 2, Trans: slices.Repeat(ring.Trans, impl.MaxTrans/2)}, filled(impl.MaxTrans, maxCount), true},
	}
	for _, c := range cases {
		if is, ok := impl.IsCycle(c.n, c.counts); !ok || is != c.want {
			t.Errorf("%s: %v %v", c.what, is, ok)
		}
		checkCounts(t, c.n, c.counts)
	}
}

// invCase is a net with all of its small invariants.
type invCase struct {
	what string
	n    impl.Net
	want [][]int
	kept bool
}

func singles(places int) [][]int {
	var l [][]int
	for p := range places {
		l = append(l, []int{p})
	}
	return l
}

// rowNet takes a token through all its places.
func rowNet(places int) impl.Net {
	n := impl.Net{Places: places}
	for p := range places - 1 {
		n.Trans = append(n.Trans, impl.Trans{In: []int{p}, Out: []int{p + 1}})
	}
	return n
}

// invCases has them by how they come about.
func invCases() []invCase {
	return []invCase{
		{"none", netOf(1, stepOf([]int{0})), nil, false},
		{"none of two places", netOf(2, stepOf([]int{0}), stepOf([]int{0}, 0, 1)), nil, false},
		{"none, as what is given goes elsewhere", netOf(3, stepOf([]int{0}, 1, 2), stepOf([]int{1}, 0), stepOf([]int{2}, 0)), nil, false},
		{"one place, no transition", netOf(1), singles(1), true},
		{"one place alone that gives back", loopNet(), singles(1), true},
		{"one place alone that no transition has", netOf(2, stepOf([]int{0})), [][]int{{1}}, false},
		{"one place alone that goes along", growNet(2, 1), [][]int{{0}}, false},
		{"three places, no transition", netOf(3), singles(3), true},
		{"a row", flowWith(3).Net, [][]int{{0, 1, 2}}, true},
		{"a ring", ringNet(), [][]int{{0, 1}}, false},
		{"two that share a place, by a fork", netOf(3, stepOf([]int{0}, 1, 2)), [][]int{{0, 1}, {0, 2}}, true},
		{"two that share a place, by a join", netOf(3, stepOf([]int{0, 1}, 2)), [][]int{{0, 2}, {1, 2}}, true},
		{"fork and join", netOf(4, stepOf([]int{0}, 1, 2), stepOf([]int{1, 2}, 3)), [][]int{{0, 1, 3}, {0, 2, 3}}, true},
		{"four that share places", netOf(4, stepOf([]int{0, 1}, 2, 3)), [][]int{{0, 2}, {1, 2}, {0, 3}, {1, 3}}, true},
		{"both sides the same", netOf(2, stepOf([]int{0, 1}, 0, 1)), singles(2), true},
		{"a set that holds two others is left out", netOf(4, stepOf([]int{0}, 1), stepOf([]int{2}, 3)), [][]int{{0, 1}, {2, 3}}, true},
		{"a set that holds one place alone is left out", netOf(4, stepOf([]int{0}, 2), stepOf([]int{2}, 3)), [][]int{{1}, {0, 2, 3}}, true},
		{"a set that holds another one, whose rest is none", netOf(3, stepOf([]int{0}, 1), stepOf([]int{2})), [][]int{{0, 1}}, false},
		{"a choice", netOf(3, stepOf([]int{0}, 1), stepOf([]int{0}, 2)), [][]int{{0, 1, 2}}, true},
		{"two ways to the same", netOf(4, stepOf([]int{0}, 1), stepOf([]int{0}, 2), stepOf([]int{1}, 3), stepOf([]int{2}, 3)), [][]int{{0, 1, 2, 3}}, true},
		{"the second transition undoes it", netOf(2, stepOf([]int{0}, 1), stepOf([]int{1})), nil, false},
		{"one place is in none", netOf(3, stepOf([]int{0}, 1, 2), stepOf([]int{2})), [][]int{{0, 1}}, false},
	}
}

// invCasesOfOrder are of sets whose order is told by numbers alone, and of as many places as there may be.
func invCasesOfOrder() []invCase {
	pairs := netOf(10, stepOf([]int{0}, 9), stepOf([]int{1}, 8), stepOf([]int{2}, 7), stepOf([]int{3}, 6), stepOf([]int{4}, 5))
	var crossed [][]int
	for p := 5; p < 10; p++ {
		for q := range 5 {
			crossed = append(crossed, []int{q, p})
		}
	}
	return []invCase{
		{"the one whose greatest place is less goes ahead", netOf(4, stepOf([]int{1}, 2), stepOf([]int{0}, 3)), [][]int{{1, 2}, {0, 3}}, true},
		{"a longer one goes ahead", netOf(4, stepOf([]int{0}, 1), stepOf([]int{1}, 2)), [][]int{{0, 1, 2}, {3}}, true},
		{"a shorter one goes ahead", netOf(4, stepOf([]int{1}, 2), stepOf([]int{2}, 3)), [][]int{{0}, {1, 2, 3}}, true},
		{"the second greatest place counts where the greatest are alike", netOf(4, stepOf([]int{3}, 1, 2), stepOf([]int{0}, 0)), [][]int{{0}, {1, 3}, {2, 3}}, true},
		{"the third, too", netOf(5, stepOf([]int{4}, 3), stepOf([]int{3}, 1, 2)), [][]int{{0}, {1, 3, 4}, {2, 3, 4}}, true},
		{"the numbers are as much in all", netOf(5, stepOf([]int{2}, 3), stepOf([]int{0}, 1), stepOf([]int{1}, 4)), [][]int{{2, 3}, {0, 1, 4}}, true},
		{"10 places, no transition", netOf(maxInvPlaces), singles(maxInvPlaces), true},
		{"10 places, one set", rowNet(maxInvPlaces), [][]int{numbersTo(maxInvPlaces)}, true},
		{"10 places, all but the last", netOf(10, append(rowNet(9).Trans, stepOf([]int{9}))...), [][]int{numbersTo(9)}, false},
		{"10 places, the last alone", netOf(10, append(rowNet(9).Trans, stepOf([]int{0}))...), [][]int{{9}}, false},
		{"10 places, one in none", gridNet(maxInvPlaces), nil, false},
		{"10 places in pairs", pairs, [][]int{{4, 5}, {3, 6}, {2, 7}, {1, 8}, {0, 9}}, true},
		{"10 places, 25 sets", netOf(10, stepOf(numbersTo(5), 5, 6, 7, 8, 9)), crossed, true},
		{"10 places, MaxTrans", netOf(10, slices.Repeat([]impl.Trans{stepOf(numbersTo(9), 9)}, impl.MaxTrans)...), crossedWith(9), true},
	}
}

// crossedWith has a place with each lesser one.
func crossedWith(place int) [][]int {
	var l [][]int
	for p := range place {
		l = append(l, []int{p, place})
	}
	return l
}

func TestSmallInvariants(t *testing.T) {
	for _, c := range append(invCases(), invCasesOfOrder()...) {
		if l, ok := impl.SmallInvariants(c.n); !ok || !sameRows(l, c.want) {
			t.Errorf("%s: %v %v, not %v", c.what, l, ok, c.want)
		}
		if is, ok := impl.IsKept(c.n); !ok || is != c.kept {
			t.Errorf("%s: kept %v %v", c.what, is, ok)
		}
		checkSmall(t, c.n)
	}
}

// One place more than 10, be it one that no transition has, and nothing is told; what does not go through all sets tells it as before.
func TestSmallInvariantsOfTooManyPlaces(t *testing.T) {
	for places := maxInvPlaces + 1; places <= impl.MaxPlaces; places++ {
		for _, n := range []impl.Net{{Places: places}, {Places: places, Trans: loopNet().Trans}, rowNet(places), growNet(places, 1), gridNet(places)} {
			zeroOfSmall(t, "too many places", n)
			checkWeights(t, n, filled(places, 1))
			checkCounts(t, n, filled(len(n.Trans), 1))
		}
	}
}

// checkSmall holds what is told of sets of places against the document's words, and against IsInvariant.
func checkSmall(t *testing.T, n impl.Net) [][]int {
	t.Helper()
	want := smallPlainly(n)
	if l, ok := impl.SmallInvariants(n); !ok || !sameRows(l, want) {
		t.Fatalf("SmallInvariants of %v: %v %v, not %v", n, l, ok, want)
	}
	kept := keptPlainly(n, want)
	if is, ok := impl.IsKept(n); !ok || is != kept {
		t.Fatalf("IsKept of %v: %v %v", n, is, ok)
	}
	for _, set := range want {
		if is, ok := impl.IsInvariant(n, onesOn(n.Places, set)); !is || !ok {
			t.Fatalf("IsInvariant of %v in %v: %v %v", set, n, is, ok)
		}
	}
	return want
}

// All nets with up to two transitions of one place and of two, and with one of three, with all small weights and some counts.
func TestAllSmallInvariants(t *testing.T) {
	for _, n := range smallNets(3) {
		checkSmall(t, n)
		for _, m := range marksUpTo(n.Places, 4) {
			for p := range m {
				m[p] = []int{-impl.MaxWeight, -1, 0, 1, 2}[m[p]]
			}
			checkWeights(t, n, m)
		}
		for _, counts := range marksUpTo(len(n.Trans), 3) {
			checkCounts(t, n, counts)
			for i := range counts {
				counts[i] *= maxCount / 3
			}
			checkCounts(t, n, counts)
		}
	}
}

// checkChange holds a mark behind firings against the one ahead and what they change; only what fires is counted.
func checkChange(t *testing.T, n impl.Net, m []int, seq []int) {
	t.Helper()
	behind, many, ok := impl.FireAll(n, m, seq)
	if !ok {
		t.Fatalf("FireAll %v of %v in %v: not told", seq, n, m)
	}
	counts, ok := impl.CountsOf(n, seq[:many])
	if want := countsPlainly(len(n.Trans), seq[:many]); !ok || !slices.Equal(counts, want) {
		t.Fatalf("CountsOf %v in %v: %v %v, not %v", seq[:many], n, counts, ok, want)
	}
	change, ok := impl.ChangeBy(n, counts)
	if !ok || len(change) != n.Places {
		t.Fatalf("ChangeBy %v in %v: %v %v", counts, n, change, ok)
	}
	for p := range m {
		if m[p]+change[p] != behind[p] {
			t.Fatalf("%v of %v in %v: changed by %v, but fired to %v", seq[:many], m, n, change, behind)
		}
	}
	if is, ok := impl.IsCycle(n, counts); !ok || is != slices.Equal(m, behind) {
		t.Fatalf("IsCycle of %v in %v: %v %v, but fired from %v to %v", counts, n, is, ok, m, behind)
	}
}

// Promise 7, its second half: a mark behind firings is the one ahead and what they change, and it is the same one where they are a cycle.
func TestChangesAreThoseOfFirings(t *testing.T) {
	d := dice(71)
	steps, longest := 0, 0
	for range 3000 {
		places := 1 + d.below(impl.MaxPlaces)
		n := someNet(&d, places, d.below(impl.MaxTrans+1), false)
		m := someMark(&d, places, 3)
		seq, _ := someRun(t, &d, n, m)
		checkChange(t, n, m, seq)
		steps += len(seq)
		if len(n.Trans) > 0 {
			some := someSeq(&d, d.below(impl.MaxSeq+1), len(n.Trans))
			checkChange(t, n, filled(places, impl.MaxTokens/2), some)
			checkChange(t, n, someSpaceMark(&d, places), some)
			longest = max(longest, len(some))
		}
	}
	if steps < 6000 || longest != impl.MaxSeq {
		t.Errorf("only %d steps, %d at most", steps, longest)
	}
}

// Firings that come back are counts that are a cycle, and the other way round.
func TestCyclesComeBack(t *testing.T) {
	d := dice(72)
	cycles, others := 0, 0
	for range 6000 {
		places := 1 + d.below(5)
		n := groupNet(&d, places, 1+d.below(2), 1+d.below(4))
		seq := someSeq(&d, 1+d.below(8), max(len(n.Trans), 1))
		if len(n.Trans) == 0 {
			continue
		}
		m := filled(places, 20)
		checkChange(t, n, m, seq)
		if checkCounts(t, n, countsPlainly(len(n.Trans), seq)) {
			cycles++
		} else {
			others++
		}
	}
	if cycles < 500 || others < 500 {
		t.Errorf("only %d cycles, %d others", cycles, others)
	}
}

// Promise 7, its first half: an invariant weighs as much behind each firing, and what is none does not.
func TestInvariantsWeighAsMuch(t *testing.T) {
	d := dice(73)
	kept, changed, steps := 0, 0, 0
	for range 3000 {
		places := 1 + d.below(impl.MaxPlaces)
		weights := someWeights(&d, places)
		n := keepingNet(&d, weights, d.below(impl.MaxTrans+1))
		if d.below(3) == 0 {
			n.Trans = append(n.Trans[:min(len(n.Trans), impl.MaxTrans-1)], someNet(&d, places, 1, false).Trans...)
		}
		checkCounts(t, n, someCounts(&d, len(n.Trans), d.below(2) == 0))
		checkWeights(t, n, someWeights(&d, places))
		if !checkWeights(t, n, weights) {
			changed++
			continue
		}
		kept++
		m := someMark(&d, places, 3)
		seq, behind := someRun(t, &d, n, m)
		steps += len(seq)
		if !weighsAsMuch(t, n, weights, m, seq) {
			t.Fatalf("%v in %v: %v and %v, behind %v, weigh not the same", weights, n, m, behind, seq)
		}
	}
	if kept < 1500 || changed < 500 || steps < 5000 {
		t.Errorf("only %d kept, %d changed, %d steps", kept, changed, steps)
	}
}

// Sets of places of nets of all sizes, with groups of places that keep their tokens and without.
func TestSmallInvariantsOfAllKinds(t *testing.T) {
	d := dice(7)
	kept, others, sets, long, shared := 0, 0, 0, 0, 0
	for range 500 {
		places := 1 + d.below(maxInvPlaces)
		n := groupNet(&d, places, 1+d.below(4), 1+d.below(10))
		if d.below(2) == 0 {
			n.Trans = append(n.Trans, someNet(&d, places, 1+d.below(2), false).Trans...)
		}
		l := checkSmall(t, n)
		sets += len(l)
		for i, set := range l {
			if len(set) > 3 {
				long++
			}
			if slices.ContainsFunc(l[:i], func(o []int) bool { return slices.ContainsFunc(set, func(p int) bool { return slices.Contains(o, p) }) }) {
				shared++
			}
		}
		if keptPlainly(n, l) {
			kept++
		} else {
			others++
		}
	}
	if kept < 150 || others < 100 || sets < 700 || long < 50 || shared < 100 {
		t.Errorf("only %d kept, %d not, %d sets, %d long ones, %d that share", kept, others, sets, long, shared)
	}
}

// Each place is in one of the small invariants just where it is in any set that is an invariant; in a net that is kept no place ever has more tokens than there are in all that it is with.
func TestWhatIsKeptHasAnEnd(t *testing.T) {
	d := dice(74)
	kept := 0
	for range 200 {
		places := 1 + d.below(5)
		n := groupNet(&d, places, 1+d.below(3), 1+d.below(5))
		if d.below(3) == 0 {
			n.Trans = append(n.Trans, someNet(&d, places, 1, false).Trans...)
		}
		in := filled(places, 0)
		for _, set := range listsOf(places)[1:] {
			if is, ok := impl.IsInvariant(n, onesOn(places, set)); is && ok {
				for _, p := range set {
					in[p] = 1
				}
			}
		}
		is, ok := impl.IsKept(n)
		if !ok || is != !slices.Contains(in, 0) {
			t.Fatalf("IsKept of %v: %v %v, but in invariants are %v", n, is, ok, in)
		}
		if !is {
			continue
		}
		kept++
		start := fewTokens(&d, places)
		total, _ := impl.TotalOf(places, start)
		for _, m := range metFreely(n, start, 300) {
			if slices.Max(m) > total {
				t.Fatalf("IsKept of %v: true, but %v comes to %v", n, start, m)
			}
		}
	}
	if kept < 80 {
		t.Errorf("only %d kept", kept)
	}
}

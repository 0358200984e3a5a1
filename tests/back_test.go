package tests

import (
	"slices"
	"testing"

	"loop.example/g00662/impl"
)

func TestBackLimit(t *testing.T) {
	if impl.MaxBasis != 60 {
		t.Error("MaxBasis is not the document's")
	}
}

// none stands for a step back that is not there, or not good.
const none = -1

// A place that is in In, in Out, in Reset, in each two of them, in all three and in none, from some tokens on it. Place 0 is in In alone.
func TestStepBackAtOnePlace(t *testing.T) {
	at := []int{1}
	tokens := []int{0, 1, 2, 3, 49, 50}
	cases := []struct {
		what string
		t    impl.Trans
		want []int
	}{
		{"in none", impl.Trans{In: []int{0}}, []int{0, 1, 2, 3, 49, 50}},
		{"in In", impl.Trans{In: []int{0, 1}}, []int{1, 2, 3, 4, 50, none}},
		{"in Out", impl.Trans{In: []int{0}, Out: at}, []int{0, 0, 1, 2, 48, 49}},
		{"in Reset", impl.Trans{In: []int{0}, Reset: at}, []int{0, none, none, none, none, none}},
		{"in In and Out", impl.Trans{In: []int{0, 1}, Out: at}, []int{1, 1, 2, 3, 49, 50}},
		{"in In and Reset", impl.Trans{In: []int{0, 1}, Reset: at}, []int{1, none, none, none, none, none}},
		{"in Out and Reset", impl.Trans{In: []int{0}, Out: at, Reset: at}, []int{0, 0, none, none, none, none}},
		{"in all three", impl.Trans{In: []int{0, 1}, Out: at, Reset: at}, []int{1, 1, none, none, none, none}},
	}
	for _, c := range cases {
		n := impl.Net{Places: 2, Trans: []impl.Trans{c.t}}
		for i, k := range tokens {
			m, ok := impl.StepBack(n, 0, []int{3, k})
			if c.want[i] == none && (len(m) != 0 || ok) {
				t.Errorf("%s, from %d: %v %v", c.what, k, m, ok)
			}
			if c.want[i] != none && (!ok || !slices.Equal(m, []int{4, c.want[i]})) {
				t.Errorf("%s, from %d: %v %v, not %d", c.what, k, m, ok, c.want[i])
			}
		}
	}
}

func TestStepBack(t *testing.T) {
	full := impl.MaxTokens
	last := impl.MaxPlaces - 1
	many := impl.Net{Places: 2, Trans: slices.Repeat([]impl.Trans{{In: []int{0}}}, impl.MaxTrans-1)}
	many.Trans = append(many.Trans, impl.Trans{In: []int{1}, Out: []int{0}})
	cases := []struct {
		what    string
		n       impl.Net
		t       int
		m, want []int
	}{
		{"the first of two", netToAsk(), 0, []int{0, 1, 1}, []int{1, 0, 0}},
		{"the second", netToAsk(), 1, []int{0, 1, 1}, []int{1, 1, 1}},
		{"the third", netToAsk(), 2, []int{0, 1, 1}, []int{0, 1, 2}},
		{"the last of MaxTrans", many, impl.MaxTrans - 1, []int{1, 0}, []int{0, 1}},
		{"to no token", netToAsk(), 0, []int{0, 0, 0}, []int{1, 0, 0}},
		{"it is not what fires that has to be covered", netToAsk(), 2, []int{0, 0, 0}, []int{0, 0, 1}},
		{"one of two places of Out has none", netToAsk(), 0, []int{0, 0, 3}, []int{1, 0, 2}},
		{"MaxTokens on all places", netToAsk(), 1, filled(3, full), filled(3, full)},
		{"one more on the first", netToAsk(), 0, filled(3, full), nil},
		{"up to MaxTokens on the first", netToAsk(), 0, []int{full - 1, full, full}, []int{full, full - 1, full - 1}},
		{"one more on the last place", impl.Net{Places: impl.MaxPlaces, Trans: []impl.Trans{{In: []int{last}}}}, 0, append(filled(last, 0), full), nil},
		{"up to MaxTokens on the last place", impl.Net{Places: impl.MaxPlaces, Trans: []impl.Trans{{In: []int{last}}}}, 0, append(filled(last, 0), full-1), append(filled(last, 0), full)},
		{"two places are emptied, one keeps too many", impl.Net{Places: 3, Trans: []impl.Trans{{In: []int{0}, Out: []int{1, 2}, Reset: []int{1, 2}}}}, 0, []int{0, 1, 2}, nil},
		{"two places are emptied, both keep what they are given", impl.Net{Places: 3, Trans: []impl.Trans{{In: []int{0}, Out: []int{1, 2}, Reset: []int{1, 2}}}}, 0, []int{5, 1, 1}, []int{6, 0, 0}},
		{"two places are emptied, one is given nothing", impl.Net{Places: 3, Trans: []impl.Trans{{In: []int{0}, Out: []int{1}, Reset: []int{1, 2}}}}, 0, []int{0, 1, 1}, nil},
		{"the last place is emptied", impl.Net{Places: impl.MaxPlaces, Trans: []impl.Trans{{In: []int{0}, Reset: []int{last}}}}, 0, append(filled(last, 0), 1), nil},
		{"a token goes out of the place that it empties", impl.Net{Places: 1, Trans: []impl.Trans{{In: []int{0}, Reset: []int{0}}}}, 0, []int{0}, []int{1}},
	}
	for _, c := range cases {
		if m, ok := impl.StepBack(c.n, c.t, c.m); ok != (c.want != nil) || !slices.Equal(m, c.want) {
			t.Errorf("%s: %v %v, not %v", c.what, m, ok, c.want)
		}
	}
}

// checkStep holds a step back against firing: it fires to what covers the mark, and what fires to that covers it.
func checkStep(t *testing.T, n impl.Net, number int, m []int, others [][]int) {
	t.Helper()
	least, ok := impl.StepBack(n, number, m)
	tr := n.Trans[number]
	if want, is := stepBackPlainly(tr, m); ok != (is && slices.Max(want) <= impl.MaxTokens) || ok && !slices.Equal(least, want) {
		t.Fatalf("StepBack by %v from %v: %v %v, not %v", tr, m, least, ok, want)
	}
	if ok && !(enabledPlainly(tr, least) && coversPlainly(fireFreely(tr, least), m)) {
		t.Fatalf("StepBack by %v from %v: %v does not fire to what covers it", tr, m, least)
	}
	for _, x := range others {
		fires := enabledPlainly(tr, x) && coversPlainly(fireFreely(tr, x), m)
		if fires != (ok && coversPlainly(x, least)) {
			t.Fatalf("StepBack by %v from %v: %v %v, but %v fires to what covers it: %v", tr, m, least, ok, x, fires)
		}
	}
}

// All transitions of one place, of two and of three, from all marks of few tokens.
func TestStepBackAgainstFiring(t *testing.T) {
	for places := 1; places <= 3; places++ {
		most := 5 - places
		others := marksUpTo(places, most)
		for _, tr := range transOf(places) {
			n := impl.Net{Places: places, Trans: []impl.Trans{tr}}
			for _, m := range marksUpTo(places, most-1) {
				checkStep(t, n, 0, m, others)
			}
		}
	}
	d := dice(61)
	for range 20000 {
		places := 1 + d.below(impl.MaxPlaces)
		n := someNet(&d, places, 1+d.below(impl.MaxTrans), true)
		checkStep(t, n, d.below(len(n.Trans)), someSpaceMark(&d, places), [][]int{someMark(&d, places, 3), someSpaceMark(&d, places)})
	}
}

// basisCase is a basis that is written out, with how many rounds it takes, and how many marks are behind the round with most of them.
type basisCase struct {
	what   string
	n      impl.Net
	m      []int
	want   [][]int
	rounds int
	most   int
}

// basisCasesAlone have a mark whose basis is itself alone.
func basisCasesAlone() []basisCase {
	return []basisCase{
		{"no transition", impl.Net{Places: 2}, []int{3, 0}, [][]int{{3, 0}}, 0, 1},
		{"no transition, no token", impl.Net{Places: 1, Trans: []impl.Trans{}}, []int{0}, [][]int{{0}}, 0, 1},
		{"no transition, MaxTokens", impl.Net{Places: 2}, []int{50, 50}, [][]int{{50, 50}}, 0, 1},
		{"no token", netToAsk(), []int{0, 0, 0}, [][]int{{0, 0, 0}}, 0, 1},
		{"no token, and resets", spaceNet(), []int{0, 0, 0}, [][]int{{0, 0, 0}}, 0, 1},
		{"nothing gives to it", gridNet(2), []int{1, 2}, [][]int{{1, 2}}, 0, 1},
		{"what gives back what it takes", loopNet(), []int{7}, [][]int{{7}}, 0, 1},
		{"so with MaxTokens", loopNet(), []int{50}, [][]int{{50}}, 0, 1},
		{"what would give empties it, too", impl.Net{Places: 2, Trans: []impl.Trans{{In: []int{0}, Out: []int{1}, Reset: []int{1}}}}, []int{0, 2}, [][]int{{0, 2}}, 0, 1},
		{"what would give empties another place", impl.Net{Places: 3, Trans: []impl.Trans{{In: []int{0}, Out: []int{1}, Reset: []int{2}}}}, []int{0, 1, 1}, [][]int{{0, 1, 1}}, 0, 1},
		{"a step back to none, with one token more than MaxTokens elsewhere", impl.Net{Places: 2, Trans: []impl.Trans{{In: []int{0}, Reset: []int{1}}}}, []int{50, 1}, [][]int{{50, 1}}, 0, 1},
	}
}

// basisCasesThatGrow have rounds that change something.
func basisCasesThatGrow() []basisCase {
	return []basisCase{
		{"one round", growNet(2, 1), []int{0, 1}, [][]int{{0, 1}, {1, 0}}, 1, 2},
		{"a row, from behind", flowWith(3).Net, []int{0, 1, 0}, [][]int{{0, 0, 1}, {0, 1, 0}, {1, 0, 0}}, 2, 3},
		{"a token goes over at each of the rounds", impl.Net{Places: 2, Trans: []impl.Trans{{In: []int{0}, Out: []int{1}}}}, []int{0, 3}, [][]int{{0, 3}, {1, 2}, {2, 1}, {3, 0}}, 3, 4},
		{"so the other way: the order is that of marks", impl.Net{Places: 2, Trans: []impl.Trans{{In: []int{1}, Out: []int{0}}}}, []int{3, 0}, [][]int{{0, 3}, {1, 2}, {2, 1}, {3, 0}}, 3, 4},
		{"the order is by numbers, not by digits", impl.Net{Places: 2, Trans: []impl.Trans{{In: []int{1}, Out: []int{0}}}}, []int{2, 9}, [][]int{{0, 11}, {1, 10}, {2, 9}}, 2, 3},
		{"two to one mark", impl.Net{Places: 2, Trans: []impl.Trans{{In: []int{0}, Out: []int{1}}, {In: []int{0}, Out: []int{1}}}}, []int{0, 1}, [][]int{{0, 1}, {1, 0}}, 1, 2},
		{"the mark itself falls out", sinkNet(), []int{0, 1, 1}, [][]int{{0, 0, 1}}, 1, 1},
		{"all fall out by the last one", sinkNet(), []int{2, 2, 1}, [][]int{{0, 0, 1}}, 4, 3},
		{"two fall out by one behind them", dropNet(), []int{1, 0, 0, 0, 0}, [][]int{{0, 0, 0, 0, 1}, {0, 1, 0, 0, 0}, {1, 0, 0, 0, 0}}, 2, 4},
		{"one falls out in the round that brings it", impl.Net{Places: 3, Trans: []impl.Trans{{In: []int{1, 2}, Out: []int{0}}, {In: []int{1}, Out: []int{0}}}}, []int{1, 0, 0}, [][]int{{0, 1, 0}, {1, 0, 0}}, 1, 2},
		{"so behind the one that it covers", impl.Net{Places: 3, Trans: []impl.Trans{{In: []int{1}, Out: []int{0}}, {In: []int{1, 2}, Out: []int{0}}}}, []int{1, 0, 0}, [][]int{{0, 1, 0}, {1, 0, 0}}, 1, 2},
		{"a place is emptied and keeps what it is given", impl.Net{Places: 2, Trans: []impl.Trans{{In: []int{0}, Out: []int{1}, Reset: []int{1}}}}, []int{0, 1}, [][]int{{0, 1}, {1, 0}}, 1, 2},
		{"a place is emptied on the way, and filled again", impl.Net{Places: 3, Trans: []impl.Trans{{In: []int{0}, Out: []int{1}, Reset: []int{2}}, {In: []int{1}, Out: []int{1, 2}}}}, []int{0, 1, 2}, [][]int{{0, 1, 0}, {1, 0, 0}}, 3, 2},
		{"a round takes no mark that has just fallen out", impl.Net{Places: 3, Trans: []impl.Trans{{In: []int{1, 2}, Out: []int{0}}, {In: []int{1}, Out: []int{0}}, {In: []int{2}, Out: []int{1, 2}}}}, []int{1, 0, 0}, [][]int{{0, 0, 1}, {0, 1, 0}, {1, 0, 0}}, 2, 3},
		{"up to MaxTokens", impl.Net{Places: 2, Trans: []impl.Trans{{In: []int{0}, Out: []int{1}}}}, []int{48, 1}, [][]int{{48, 1}, {49, 0}}, 1, 2},
	}
}

// Each basis that is written out, with a budget that is met exactly and beyond; with one that is too small nothing is told, be it ahead of the last round.
func TestBackBasis(t *testing.T) {
	for _, c := range append(basisCasesAlone(), basisCasesThatGrow()...) {
		for _, budget := range []int{c.most, c.most + 1, impl.MaxBasis} {
			if l, ok := impl.BackBasis(c.n, c.m, budget); !ok || !sameRows(l, c.want) {
				t.Errorf("%s, budget %d: %v %v", c.what, budget, l, ok)
			}
			if k, ok := impl.BackRounds(c.n, c.m, budget); !ok || k != c.rounds {
				t.Errorf("%s, budget %d: %d rounds, %v", c.what, budget, k, ok)
			}
			checkBasis(t, c.n, c.m, budget)
		}
		for budget := 1; budget < c.most; budget++ {
			zeroOfBasis(t, c.what, c.n, c.m, c.m, budget)
		}
		for _, start := range [][]int{c.m, filled(c.n.Places, 0), filled(c.n.Places, 1), filled(c.n.Places, impl.MaxTokens)} {
			checkPromise6(t, c.n, start, c.m)
		}
	}
}

// A step back with more than MaxTokens on a place is told by none, whatever the budget, be it one that covers another mark or one of the last round.
func TestBackBasisTokens(t *testing.T) {
	full := impl.MaxTokens
	over := impl.Net{Places: 2, Trans: []impl.Trans{{In: []int{0}, Out: []int{1}}}}
	beside := impl.Net{Places: 3, Trans: []impl.Trans{{In: []int{0}, Out: []int{1}, Reset: []int{2}}}}
	fallen := impl.Net{Places: 4, Trans: []impl.Trans{{In: []int{0, 1}, Out: []int{2}}, {In: []int{1}, Out: []int{2}}, {In: []int{0}, Out: []int{3}}}}
	cases := []struct {
		what   string
		n      impl.Net
		m      []int
		marks  int
		rounds int
	}{
		{"nothing new, and one more", over, []int{full, 0}, 0, 0},
		{"nothing new, and MaxTokens", over, []int{full - 1, 0}, 1, 0},
		{"in the first round", over, []int{full, 1}, 0, 0},
		{"in the last round", over, []int{full - 1, 1}, 0, 0},
		{"in none", over, []int{full - 2, 1}, 2, 1},
		{"in the last of many rounds", over, []int{0, full}, 0, 0},
		{"in none of many rounds", over, []int{0, full - 1}, full, full - 1},
		{"in the second transition alone", impl.Net{Places: 2, Trans: []impl.Trans{{In: []int{0}, Out: []int{0}}, {In: []int{0}}}}, []int{full, 0}, 0, 0},
		{"in the first transition alone", impl.Net{Places: 2, Trans: []impl.Trans{{In: []int{0}}, {In: []int{0}, Out: []int{0}}}}, []int{full, 0}, 0, 0},
		{"on the last place", impl.Net{Places: impl.MaxPlaces, Trans: []impl.Trans{{In: []int{impl.MaxPlaces - 1}}}}, append(filled(impl.MaxPlaces-1, 0), full), 0, 0},
		{"there is no such step back", beside, []int{full, 1, 1}, 1, 0},
		{"there is one", beside, []int{full, 1, 0}, 0, 0},
		{"emptied where it is full", impl.Net{Places: 2, Trans: []impl.Trans{{In: []int{0}, Reset: []int{0}}}}, []int{full, 0}, 1, 0},
		{"from a mark that fell out in the round that brought it alone", fallen, []int{full - 1, 0, 1, 0}, 2, 1},
		{"from the one by which it fell out, too", fallen, []int{full, 0, 1, 0}, 0, 0},
	}
	for _, c := range cases {
		l, ok := impl.BackBasis(c.n, c.m, impl.MaxBasis)
		if ok != (c.marks > 0) || len(l) != c.marks {
			t.Errorf("%s: %d marks, %v", c.what, len(l), ok)
		}
		if k, ok := impl.BackRounds(c.n, c.m, impl.MaxBasis); ok != (c.marks > 0) || k != c.rounds {
			t.Errorf("%s: %d rounds, %v", c.what, k, ok)
		}
		checkBasis(t, c.n, c.m, impl.MaxBasis)
	}
}

// Just MaxBasis marks are told, one more is not.
func TestBackMaxBasis(t *testing.T) {
	pair := append([]int{1, 1}, filled(impl.MaxPlaces-2, 0)...)
	one := crossNet(6, 10)
	one.Trans = append(one.Trans, impl.Trans{In: []int{2, 3}, Out: []int{0, 1}})
	cases := []struct {
		what  string
		n     impl.Net
		m     []int
		marks int
	}{
		{"one less", crossNet(1, 1), pair, 1},
		{"7 of 8", crossNet(7, 8), pair, 56},
		{"6 of 10", crossNet(6, 10), pair, 60},
		{"one more", one, pair, 61},
		{"7 of 9", crossNet(7, 9), pair, 63},
		{"two rows", impl.Net{Places: 4, Trans: []impl.Trans{{In: []int{0}, Out: []int{1}}, {In: []int{2}, Out: []int{3}}}}, []int{0, 4, 0, 11}, 60},
		{"two rows, too many", impl.Net{Places: 4, Trans: []impl.Trans{{In: []int{0}, Out: []int{1}}, {In: []int{2}, Out: []int{3}}}}, []int{0, 4, 0, 12}, 65},
	}
	for _, c := range cases {
		l, ok := impl.BackBasis(c.n, c.m, impl.MaxBasis)
		if c.marks > impl.MaxBasis {
			zeroOfBasis(t, c.what, c.n, c.m, c.m, impl.MaxBasis)
		} else if !ok || len(l) != c.marks {
			t.Errorf("%s: %d marks, %v", c.what, len(l), ok)
		}
		for _, budget := range []int{c.marks - 1, c.marks, impl.MaxBasis - 1, impl.MaxBasis} {
			if budget >= 1 && budget <= impl.MaxBasis {
				checkBasis(t, c.n, c.m, budget)
			}
		}
	}
}

// Many marks on the way to one that all of them cover: a budget may be too small long ahead of the last round.
func TestBackBudgetOnTheWay(t *testing.T) {
	full := impl.MaxTokens
	cases := []struct{ a, b, most int }{{full, full, full + 1}, {full, 9, 10}, {3, 5, 4}, {0, 7, 1}}
	for _, c := range cases {
		m := []int{c.a, c.b, 1}
		if l, ok := impl.BackBasis(sinkNet(), m, c.most); !ok || !sameRows(l, [][]int{{0, 0, 1}}) {
			t.Errorf("%v, budget %d: %v %v", m, c.most, l, ok)
		}
		if k, ok := impl.BackRounds(sinkNet(), m, c.most); !ok || k != c.a+c.b {
			t.Errorf("%v, budget %d: %d rounds, %v", m, c.most, k, ok)
		}
		if is, ok := impl.CoversBack(sinkNet(), []int{0, 0, 1}, m, c.most); !ok || !is {
			t.Errorf("%v, budget %d: %v %v", m, c.most, is, ok)
		}
		checkBasis(t, sinkNet(), m, c.most)
		if c.most > 1 {
			zeroOfBasis(t, "too small ahead of the last round", sinkNet(), []int{0, 0, 1}, m, c.most-1)
		}
	}
}

func TestCoversBack(t *testing.T) {
	// Place 2 is emptied by what fills place 1.
	cleans := impl.Net{Places: 3, Trans: []impl.Trans{{In: []int{0}, Out: []int{1}, Reset: []int{2}}, {In: []int{1}, Out: []int{2}}}}
	row := flowWith(3).Net
	cases := []struct {
		what     string
		n        impl.Net
		start, m []int
		want     bool
	}{
		{"the mark itself", impl.Net{Places: 2}, []int{3, 1}, []int{3, 1}, true},
		{"a lesser one", impl.Net{Places: 2}, []int{3, 1}, []int{2, 0}, true},
		{"a greater one, no transition", impl.Net{Places: 2}, []int{3, 1}, []int{3, 2}, false},
		{"no token is asked for", cleans, []int{0, 0, 0}, []int{0, 0, 0}, true},
		{"one firing on", row, []int{1, 0, 0}, []int{0, 0, 1}, true},
		{"two firings on", row, []int{1, 0, 0}, []int{0, 1, 0}, true},
		{"more tokens than there are", row, []int{1, 0, 0}, []int{0, 1, 1}, false},
		{"as many as there are", row, []int{2, 0, 0}, []int{0, 1, 1}, true},
		{"back against the way", row, []int{0, 1, 0}, []int{1, 0, 0}, false},
		{"what is emptied on the way is gone", cleans, []int{1, 0, 5}, []int{0, 1, 5}, false},
		{"what is emptied on the way is gone, one token", cleans, []int{1, 0, 1}, []int{0, 1, 1}, false},
		{"ahead of it, it is there", cleans, []int{1, 0, 5}, []int{1, 0, 5}, true},
		{"what comes behind it stays", cleans, []int{1, 0, 5}, []int{0, 0, 1}, true},
		{"so it is done first", cleans, []int{1, 1, 0}, []int{0, 1, 1}, true},
		{"done twice, what came first is gone", cleans, []int{2, 0, 0}, []int{0, 0, 2}, true},
		{"one of three is gone", cleans, []int{2, 0, 0}, []int{0, 1, 2}, false},
		{"tokens without an end", growNet(2, 1), []int{1, 0}, []int{1, 40}, true},
		{"none to begin with", growNet(2, 1), []int{0, 0}, []int{0, 40}, false},
		{"MaxTokens at the start", row, []int{50, 50, 50}, []int{0, 9, 0}, true},
	}
	for _, c := range cases {
		if is, ok := impl.CoversBack(c.n, c.start, c.m, impl.MaxBasis); !ok || is != c.want {
			t.Errorf("%s: %v %v", c.what, is, ok)
		}
		checkPromise6(t, c.n, c.start, c.m)
	}
}

// checkBasis holds all that is told of a basis against the document's words; the arguments are as said. It tells whether one is told.
func checkBasis(t *testing.T, n impl.Net, m []int, budget int) bool {
	t.Helper()
	layers, is := layersPlainly(n, m, budget)
	if !is {
		zeroOfBasis(t, "a basis that is not told", n, m, m, budget)
		return false
	}
	want := layers[len(layers)-1]
	if l, ok := impl.BackBasis(n, m, budget); !ok || !sameRows(l, want) {
		t.Fatalf("BackBasis of %v in %v, budget %d: %v %v, not %v", m, n, budget, l, ok, want)
	}
	if k, ok := impl.BackRounds(n, m, budget); !ok || k != len(layers)-1 {
		t.Fatalf("BackRounds of %v in %v, budget %d: %v %v, not %d", m, n, budget, k, ok, len(layers)-1)
	}
	starts := [][]int{m, filled(n.Places, 0), filled(n.Places, 1), filled(n.Places, impl.MaxTokens)}
	for i := 0; i < len(want); i += 1 + len(want)/5 {
		starts = append(starts, want[i])
	}
	for _, start := range starts {
		checkCoversBack(t, n, start, m, budget, want)
		lesser := slices.Clone(start)
		if at := slices.IndexFunc(start, func(k int) bool { return k > 0 }); at >= 0 {
			lesser[at]--
		}
		checkCoversBack(t, n, lesser, m, budget, want)
	}
	return true
}

func checkCoversBack(t *testing.T, n impl.Net, start []int, m []int, budget int, basis [][]int) {
	t.Helper()
	if is, ok := impl.CoversBack(n, start, m, budget); !ok || is != coversOne(start, basis) {
		t.Fatalf("CoversBack of %v from %v in %v, budget %d: %v %v", m, start, n, budget, is, ok)
	}
}

// What was found of a mark that is to be covered.
const (
	backNotTold = iota
	backYes
	backNo
)

// checkPromise6 holds what CoversBack tells against firing: firings lead to a mark that covers where it tells true, and no mark that is met covers where it does not.
func checkPromise6(t *testing.T, n impl.Net, start []int, m []int) int {
	t.Helper()
	is, ok := impl.CoversBack(n, start, m, impl.MaxBasis)
	layers, told := layersPlainly(n, m, impl.MaxBasis)
	if ok != told {
		t.Fatalf("CoversBack of %v from %v in %v: %v %v", m, start, n, is, ok)
	}
	if !ok {
		return backNotTold
	}
	s, code, _ := impl.Explore(n, start, impl.MaxMarks)
	if found := coverers(s.Marks, m); code == impl.SpAll && is != (found > 0) {
		t.Fatalf("CoversBack of %v from %v in %v: %v, but %d of all marks cover it", m, start, n, is, found)
	}
	if !is {
		if found := coverers(metFreely(n, start, 300), m); found > 0 {
			t.Fatalf("CoversBack of %v from %v in %v: false, but %d marks cover it", m, start, n, found)
		}
		return backNo
	}
	if end, leads := leadDown(n, start, layers); !leads || !coversPlainly(end, m) {
		t.Fatalf("CoversBack of %v from %v in %v: true, but no firings lead there: %v", m, start, n, end)
	}
	return backYes
}

// coverers is how many of some marks cover one.
func coverers(l [][]int, m []int) int {
	many := 0
	for _, x := range l {
		if coversPlainly(x, m) {
			many++
		}
	}
	return many
}

// All nets with up to two transitions of one place and with one of two places, from all marks of few tokens and of nearly too many.
func TestAllSmallBases(t *testing.T) {
	nets := []impl.Net{{Places: 1}, {Places: 2}}
	for places := 1; places <= 2; places++ {
		for _, a := range transOf(places) {
			nets = append(nets, impl.Net{Places: places, Trans: []impl.Trans{a}})
		}
	}
	for _, a := range transOf(1) {
		for _, b := range transOf(1) {
			nets = append(nets, impl.Net{Places: 1, Trans: []impl.Trans{a, b}})
		}
	}
	for _, n := range nets {
		for _, m := range marksUpTo(n.Places, 3) {
			for _, budget := range []int{1, 2, 3, 4, impl.MaxBasis} {
				checkBasis(t, n, m, budget)
			}
			for _, start := range marksUpTo(n.Places, 3) {
				checkPromise6(t, n, start, m)
			}
			for p := range m {
				m[p] = impl.MaxTokens - m[p]
			}
			checkBasis(t, n, m, impl.MaxBasis)
		}
	}
}

// All pairs of transitions of two places, from all marks of few tokens.
func TestAllSmallPairsBack(t *testing.T) {
	all := transOf(2)
	for _, a := range all {
		for _, b := range all {
			n := impl.Net{Places: 2, Trans: []impl.Trans{a, b}}
			for _, m := range marksUpTo(2, 2) {
				checkBasis(t, n, m, impl.MaxBasis)
			}
			checkPromise6(t, n, []int{1, 1}, []int{0, 2})
			checkPromise6(t, n, []int{2, 0}, []int{1, 1})
			checkPromise6(t, n, []int{0, 1}, []int{1, 0})
		}
	}
}

// someBackNet is a net of any kind, or one whose transitions give about as many as they take and mostly empty nothing, so that bases grow over some rounds.
func someBackNet(d *dice, places int, trans int) impl.Net {
	n := someNet(d, places, trans, d.below(4) > 0)
	if d.below(3) == 0 {
		return n
	}
	for i, t := range n.Trans {
		n.Trans[i].In = t.In[:min(len(t.In), 1+d.below(2))]
		if d.below(3) > 0 {
			n.Trans[i].Reset = t.Reset[:min(len(t.Reset), d.below(2))]
		}
	}
	return n
}

// Promise 6, and all the rest, of nets of all sizes.
func TestBasesOfAllKinds(t *testing.T) {
	d := dice(6)
	told, over, marks, fell, emptied := 0, 0, 0, 0, 0
	rounds, found := map[int]int{}, map[int]int{}
	for range 2500 {
		places := 1 + d.below(impl.MaxPlaces)
		n := someBackNet(&d, places, d.below(impl.MaxTrans+1))
		m := fewTokens(&d, places)
		if d.below(4) == 0 {
			m = someSpaceMark(&d, places)
		}
		budget := []int{1, 1 + d.below(10), 1 + d.below(impl.MaxBasis), impl.MaxBasis}[d.below(4)]
		found[checkPromise6(t, n, someSpaceMark(&d, places), m)]++
		found[checkPromise6(t, n, fewTokens(&d, places), m)]++
		if !checkBasis(t, n, m, budget) {
			over++
			continue
		}
		told++
		layers, _ := layersPlainly(n, m, budget)
		l := layers[len(layers)-1]
		marks += len(l)
		rounds[min(len(layers)-1, 3)]++
		if resets, _ := impl.HasResets(n); resets {
			emptied++
		}
		for _, layer := range layers {
			fell += fallen(layer, l)
		}
	}
	if told < 1500 || over < 500 || marks < 5000 || fell < 500 || emptied < 500 || rounds[0] < 200 || rounds[1] < 200 || rounds[2] < 200 || rounds[3] < 200 || found[backYes] < 500 || found[backNo] < 500 {
		t.Errorf("only %d told, %d over, %d marks, %d fell out, %d with resets, rounds %v, %v", told, over, marks, fell, emptied, rounds, found)
	}
}

// fallen is how many marks of one list are not in another one.
func fallen(layer [][]int, l [][]int) int {
	many := 0
	for _, m := range layer {
		if !slices.ContainsFunc(l, func(x []int) bool { return slices.Equal(x, m) }) {
			many++
		}
	}
	return many
}

// Where both are told, what is found from behind is what wide marks tell.
func TestBackAgainstWideMarks(t *testing.T) {
	d := dice(65)
	yes, no := 0, 0
	for range 4000 {
		places := 1 + d.below(8)
		n := someCoverNet(&d, places, d.below(8))
		start, m := someSpaceMark(&d, places), fewTokens(&d, places)
		want, okTree := impl.CanCover(n, start, impl.MaxNodes, m)
		is, ok := impl.CoversBack(n, start, m, impl.MaxBasis)
		if !ok || !okTree {
			continue
		}
		if is != want {
			t.Fatalf("CoversBack of %v from %v in %v: %v, but CanCover %v", m, start, n, is, want)
		}
		if is {
			yes++
		} else {
			no++
		}
	}
	if yes < 300 || no < 300 {
		t.Errorf("only %d covered, %d not", yes, no)
	}
}

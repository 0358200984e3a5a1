package tests

import (
	"slices"
	"testing"

	"loop.example/g00662/impl"
)

const many = impl.Many

func TestCoverLimits(t *testing.T) {
	if impl.Many != 99 || impl.MaxNodes != 300 {
		t.Error("a number is not the document's")
	}
}

// coverCase is a tree that is written out.
type coverCase struct {
	what  string
	n     impl.Net
	start []int
	want  []impl.CoverNode
}

// coverCasesWithEnd have no place that widens.
func coverCasesWithEnd() []coverCase {
	return []coverCase{
		{"no transition", impl.Net{Places: 2}, []int{3, 0}, []impl.CoverNode{{Mark: []int{3, 0}, Parent: -1, By: -1}}},
		{"no transition, no token", impl.Net{Places: 1, Trans: []impl.Trans{}}, []int{0}, []impl.CoverNode{{Mark: []int{0}, Parent: -1, By: -1}}},
		{"no transition, MaxTokens", impl.Net{Places: 1}, []int{50}, []impl.CoverNode{{Mark: []int{50}, Parent: -1, By: -1}}},
		{"nothing enabled", impl.Net{Places: 2, Trans: []impl.Trans{{In: []int{0, 1}, Out: []int{0, 1}}}}, []int{9, 0}, []impl.CoverNode{{Mark: []int{9, 0}, Parent: -1, By: -1}}},
		{"a row", flowWith(3).Net, []int{1, 0, 0}, []impl.CoverNode{
			{Mark: []int{1, 0, 0}, Parent: -1, By: -1},
			{Mark: []int{0, 0, 1}, Parent: 0, By: 0},
			{Mark: []int{0, 1, 0}, Parent: 1, By: 1},
		}},
		{"fewer and fewer", gridNet(1), []int{2}, []impl.CoverNode{
			{Mark: []int{2}, Parent: -1, By: -1},
			{Mark: []int{1}, Parent: 0, By: 0},
			{Mark: []int{0}, Parent: 1, By: 0},
		}},
		{"to itself", loopNet(), []int{50}, []impl.CoverNode{
			{Mark: []int{50}, Parent: -1, By: -1},
			{Mark: []int{50}, Parent: 0, By: 0, Old: true},
		}},
		{"round and back", impl.Net{Places: 2, Trans: []impl.Trans{{In: []int{1}, Out: []int{0}}, {In: []int{0}, Out: []int{1}}}}, []int{1, 0}, []impl.CoverNode{
			{Mark: []int{1, 0}, Parent: -1, By: -1},
			{Mark: []int{0, 1}, Parent: 0, By: 1},
			{Mark: []int{1, 0}, Parent: 1, By: 0, Old: true},
		}},
		{"Old beside, not up the tree", gridNet(2), []int{1, 1}, []impl.CoverNode{
			{Mark: []int{1, 1}, Parent: -1, By: -1},
			{Mark: []int{0, 1}, Parent: 0, By: 0},
			{Mark: []int{1, 0}, Parent: 0, By: 1},
			{Mark: []int{0, 0}, Parent: 1, By: 1},
			{Mark: []int{0, 0}, Parent: 2, By: 0, Old: true},
		}},
		{"three alike, and from the first alone something follows", impl.Net{Places: 3, Trans: []impl.Trans{
			{In: []int{0}, Out: []int{1}}, {In: []int{0}, Out: []int{1}}, {In: []int{1}, Out: []int{2}}, {In: []int{0}, Out: []int{1}},
		}}, []int{1, 0, 0}, []impl.CoverNode{
			{Mark: []int{1, 0, 0}, Parent: -1, By: -1},
			{Mark: []int{0, 1, 0}, Parent: 0, By: 0},
			{Mark: []int{0, 1, 0}, Parent: 0, By: 1, Old: true},
			{Mark: []int{0, 1, 0}, Parent: 0, By: 3, Old: true},
			{Mark: []int{0, 0, 1}, Parent: 1, By: 2},
		}},
		{"all of one node ahead of the next", impl.Net{Places: 4, Trans: []impl.Trans{{In: []int{1}, Out: []int{3}}, {In: []int{0}, Out: []int{1}}, {In: []int{0}, Out: []int{2}}}}, []int{1, 0, 0, 0}, []impl.CoverNode{
			{Mark: []int{1, 0, 0, 0}, Parent: -1, By: -1},
			{Mark: []int{0, 1, 0, 0}, Parent: 0, By: 1},
			{Mark: []int{0, 0, 1, 0}, Parent: 0, By: 2},
			{Mark: []int{0, 0, 0, 1}, Parent: 1, By: 0},
		}},
		{"more than a node that is not up the tree", impl.Net{Places: 3, Trans: []impl.Trans{{In: []int{0}, Out: []int{1}}, {In: []int{0}, Out: []int{1, 2}}}}, []int{1, 0, 0}, []impl.CoverNode{
			{Mark: []int{1, 0, 0}, Parent: -1, By: -1},
			{Mark: []int{0, 1, 0}, Parent: 0, By: 0},
			{Mark: []int{0, 1, 1}, Parent: 0, By: 1},
		}},
		{"up to MaxTokens", impl.Net{Places: 2, Trans: []impl.Trans{{In: []int{0}, Out: []int{1}}}}, []int{1, 49}, []impl.CoverNode{
			{Mark: []int{1, 49}, Parent: -1, By: -1},
			{Mark: []int{0, 50}, Parent: 0, By: 0},
		}},
	}
}

// coverCasesWithoutEnd have places that widen.
func coverCasesWithoutEnd() []coverCase {
	return []coverCase{
		{"at the first firing", growNet(2, 1), []int{1, 0}, []impl.CoverNode{
			{Mark: []int{1, 0}, Parent: -1, By: -1},
			{Mark: []int{1, many}, Parent: 0, By: 0},
			{Mark: []int{1, many}, Parent: 1, By: 0, Old: true},
		}},
		{"against the node itself alone", impl.Net{Places: 3, Trans: []impl.Trans{{In: []int{0}, Out: []int{1}}, {In: []int{1}, Out: []int{1, 2}}}}, []int{1, 0, 0}, []impl.CoverNode{
			{Mark: []int{1, 0, 0}, Parent: -1, By: -1},
			{Mark: []int{0, 1, 0}, Parent: 0, By: 0},
			{Mark: []int{0, 1, many}, Parent: 1, By: 1},
			{Mark: []int{0, 1, many}, Parent: 2, By: 1, Old: true},
		}},
		{"late, against a node far up", impl.Net{Places: 4, Trans: []impl.Trans{{In: []int{0}, Out: []int{1}}, {In: []int{1}, Out: []int{2}}, {In: []int{2}, Out: []int{0, 3}}}}, []int{1, 0, 0, 7}, []impl.CoverNode{
			{Mark: []int{1, 0, 0, 7}, Parent: -1, By: -1},
			{Mark: []int{0, 1, 0, 7}, Parent: 0, By: 0},
			{Mark: []int{0, 0, 1, 7}, Parent: 1, By: 1},
			{Mark: []int{1, 0, 0, many}, Parent: 2, By: 2},
			{Mark: []int{0, 1, 0, many}, Parent: 3, By: 0},
			{Mark: []int{0, 0, 1, many}, Parent: 4, By: 1},
			{Mark: []int{1, 0, 0, many}, Parent: 5, By: 2, Old: true},
		}},
		{"against one in the midst", impl.Net{Places: 4, Trans: []impl.Trans{{In: []int{0}, Out: []int{1}}, {In: []int{1}, Out: []int{2}}, {In: []int{2}, Out: []int{1, 3}}}}, []int{1, 0, 0, 0}, []impl.CoverNode{
			{Mark: []int{1, 0, 0, 0}, Parent: -1, By: -1},
			{Mark: []int{0, 1, 0, 0}, Parent: 0, By: 0},
			{Mark: []int{0, 0, 1, 0}, Parent: 1, By: 1},
			{Mark: []int{0, 1, 0, many}, Parent: 2, By: 2},
			{Mark: []int{0, 0, 1, many}, Parent: 3, By: 1},
			{Mark: []int{0, 1, 0, many}, Parent: 4, By: 2, Old: true},
		}},
		// The fourth node is [1 0 1 1] at first: the node itself has [1 0 1 0], and only with Many the first one is covered, whose [1 0 0 2] makes place 2 Many too.
		{"twice on its way up", twiceNet(), []int{1, 0, 0, 2}, []impl.CoverNode{
			{Mark: []int{1, 0, 0, 2}, Parent: -1, By: -1},
			{Mark: []int{0, 1, 0, 1}, Parent: 0, By: 0},
			{Mark: []int{1, 0, 1, 0}, Parent: 1, By: 1},
			{Mark: []int{1, 0, many, many}, Parent: 2, By: 2},
			{Mark: []int{0, 1, many, many}, Parent: 3, By: 0},
			{Mark: []int{1, 0, many, many}, Parent: 3, By: 2, Old: true},
			{Mark: []int{1, 0, many, many}, Parent: 4, By: 1, Old: true},
			{Mark: []int{0, 1, many, many}, Parent: 4, By: 2, Old: true},
		}},
		{"Many is taken from and given to", impl.Net{Places: 2, Trans: []impl.Trans{{In: []int{0}, Out: []int{0, 1}}, {In: []int{1}}, {In: []int{1}, Out: []int{1}}}}, []int{1, 0}, []impl.CoverNode{
			{Mark: []int{1, 0}, Parent: -1, By: -1},
			{Mark: []int{1, many}, Parent: 0, By: 0},
			{Mark: []int{1, many}, Parent: 1, By: 0, Old: true},
			{Mark: []int{1, many}, Parent: 1, By: 1, Old: true},
			{Mark: []int{1, many}, Parent: 1, By: 2, Old: true},
		}},
		{"Many is taken from by what takes a last token", impl.Net{Places: 2, Trans: []impl.Trans{{In: []int{0}, Out: []int{0, 1}}, {In: []int{0, 1}}}}, []int{1, 0}, []impl.CoverNode{
			{Mark: []int{1, 0}, Parent: -1, By: -1},
			{Mark: []int{1, many}, Parent: 0, By: 0},
			{Mark: []int{1, many}, Parent: 1, By: 0, Old: true},
			{Mark: []int{0, many}, Parent: 1, By: 1},
		}},
		{"Many is given to by what takes another place's last token", impl.Net{Places: 2, Trans: []impl.Trans{{In: []int{0}, Out: []int{0, 1}}, {In: []int{0}, Out: []int{1}}}}, []int{1, 0}, []impl.CoverNode{
			{Mark: []int{1, 0}, Parent: -1, By: -1},
			{Mark: []int{1, many}, Parent: 0, By: 0},
			{Mark: []int{0, 1}, Parent: 0, By: 1},
			{Mark: []int{1, many}, Parent: 1, By: 0, Old: true},
			{Mark: []int{0, many}, Parent: 1, By: 1},
		}},
		{"two fire to the same wide mark", impl.Net{Places: 2, Trans: []impl.Trans{{In: []int{0}, Out: []int{0, 1}}, {In: []int{0}, Out: []int{0, 1}}}}, []int{1, 0}, []impl.CoverNode{
			{Mark: []int{1, 0}, Parent: -1, By: -1},
			{Mark: []int{1, many}, Parent: 0, By: 0},
			{Mark: []int{1, many}, Parent: 0, By: 1, Old: true},
			{Mark: []int{1, many}, Parent: 1, By: 0, Old: true},
			{Mark: []int{1, many}, Parent: 1, By: 1, Old: true},
		}},
		{"two places at once", impl.Net{Places: 3, Trans: []impl.Trans{{In: []int{1}, Out: []int{0, 1, 2}}}}, []int{0, 1, 5}, []impl.CoverNode{
			{Mark: []int{0, 1, 5}, Parent: -1, By: -1},
			{Mark: []int{many, 1, many}, Parent: 0, By: 0},
			{Mark: []int{many, 1, many}, Parent: 1, By: 0, Old: true},
		}},
		{"all places, one behind the other", allGrowNet(2), []int{1, 0}, []impl.CoverNode{
			{Mark: []int{1, 0}, Parent: -1, By: -1},
			{Mark: []int{1, many}, Parent: 0, By: 0},
			{Mark: []int{1, many}, Parent: 1, By: 0, Old: true},
			{Mark: []int{many, many}, Parent: 1, By: 1},
			{Mark: []int{many, many}, Parent: 3, By: 0, Old: true},
			{Mark: []int{many, many}, Parent: 3, By: 1, Old: true},
		}},
		{"Many by the firing that goes beyond MaxTokens", growNet(2, 1), []int{1, 50}, []impl.CoverNode{
			{Mark: []int{1, 50}, Parent: -1, By: -1},
			{Mark: []int{1, many}, Parent: 0, By: 0},
			{Mark: []int{1, many}, Parent: 1, By: 0, Old: true},
		}},
		{"so against the first node alone", impl.Net{Places: 3, Trans: []impl.Trans{{In: []int{0}, Out: []int{1}}, {In: []int{1}, Out: []int{0, 2}}}}, []int{1, 0, 50}, []impl.CoverNode{
			{Mark: []int{1, 0, 50}, Parent: -1, By: -1},
			{Mark: []int{0, 1, 50}, Parent: 0, By: 0},
			{Mark: []int{1, 0, many}, Parent: 1, By: 1},
			{Mark: []int{0, 1, many}, Parent: 2, By: 0},
			{Mark: []int{1, 0, many}, Parent: 3, By: 1, Old: true},
		}},
	}
}

// Each tree that is written out, with a budget that is met exactly and beyond; with one that is too small nothing is told.
func TestCoverTree(t *testing.T) {
	for _, c := range append(coverCasesWithEnd(), coverCasesWithoutEnd()...) {
		for _, budget := range []int{len(c.want), len(c.want) + 1, impl.MaxNodes} {
			if l, ok := impl.CoverTree(c.n, c.start, budget); !ok || !sameNodes(l, c.want) {
				t.Errorf("%s, budget %d: %v %v", c.what, budget, l, ok)
			}
			checkCover(t, c.n, c.start, budget)
		}
		for budget := 1; budget < len(c.want); budget++ {
			zeroOfCover(t, c.what, c.n, c.start, budget, c.start)
		}
		checkPromise5(t, c.n, c.start, marksUpTo(c.n.Places, 2))
	}
}

// A place beyond MaxTokens, and not Many, is told by none, whatever the budget.
func TestCoverTokens(t *testing.T) {
	full := impl.MaxTokens
	one := impl.Net{Places: 2, Trans: []impl.Trans{{In: []int{0}, Out: []int{1}}}}
	last := impl.Net{Places: impl.MaxPlaces, Trans: []impl.Trans{{In: []int{0}, Out: []int{impl.MaxPlaces - 1}}}}
	cases := []struct {
		what  string
		n     impl.Net
		start []int
		nodes int
	}{
		{"to MaxTokens", one, []int{1, full - 1}, 2},
		{"to one more", one, []int{1, full}, 0},
		{"to MaxTokens, and then to one more", one, []int{2, full - 1}, 0},
		{"two steps to MaxTokens", one, []int{2, full - 2}, 3},
		{"full, and not enabled", one, []int{0, full}, 1},
		{"both full", one, []int{full, full}, 0},
		{"all tokens go over", one, []int{full, 0}, full + 1},
		{"all but one go over", one, []int{full, 1}, 0},
		{"the last place, to MaxTokens", last, append([]int{1}, filled(impl.MaxPlaces-1, full-1)...), 2},
		{"the last place, to one more", last, append([]int{1}, filled(impl.MaxPlaces-1, full)...), 0},
		{"full places that give back what they take", impl.Net{Places: 2, Trans: []impl.Trans{{In: []int{0, 1}, Out: []int{0, 1}}}}, []int{full, full}, 2},
		{"the second transition goes beyond", impl.Net{Places: 2, Trans: []impl.Trans{{In: []int{0}}, {In: []int{0}, Out: []int{1}}}}, []int{1, full}, 0},
		{"one place beyond, one Many", impl.Net{Places: 3, Trans: []impl.Trans{{In: []int{0}, Out: []int{0, 2}}, {In: []int{0}, Out: []int{1}}}}, []int{1, full, 0}, 0},
		{"one place at its limit, one Many", impl.Net{Places: 3, Trans: []impl.Trans{{In: []int{0}, Out: []int{0, 2}}, {In: []int{0}, Out: []int{1}}}}, []int{1, full - 1, 0}, 5},
	}
	for _, c := range cases {
		l, ok := impl.CoverTree(c.n, c.start, impl.MaxNodes)
		if ok != (c.nodes > 0) || len(l) != c.nodes {
			t.Errorf("%s: %d nodes, %v, not %d", c.what, len(l), ok, c.nodes)
		}
		checkCover(t, c.n, c.start, impl.MaxNodes)
	}
}

// Just MaxNodes nodes are told, one more is not.
func TestCoverMaxNodes(t *testing.T) {
	cases := []struct {
		fuel, loops int
		nodes       int
	}{
		{49, 5, 300}, {24, 11, 300}, {14, 19, 300}, {42, 6, 301}, {22, 12, 299}, {50, 5, 306}, {13, 22, 322}, {11, 23, 288},
	}
	for _, c := range cases {
		n, start := burnNet(c.loops), []int{c.fuel, 1}
		l, ok := impl.CoverTree(n, start, impl.MaxNodes)
		if c.nodes <= impl.MaxNodes && (!ok || len(l) != c.nodes) {
			t.Errorf("%d nodes: %d %v", c.nodes, len(l), ok)
		}
		if c.nodes > impl.MaxNodes {
			zeroOfCover(t, "more than MaxNodes", n, start, impl.MaxNodes, start)
			continue
		}
		checkCover(t, n, start, c.nodes)
		zeroOfCover(t, "one too few", n, start, c.nodes-1, start)
	}
}

func TestIsBoundedAndUnlimited(t *testing.T) {
	last := impl.MaxPlaces - 1
	cases := []struct {
		what  string
		n     impl.Net
		start []int
		want  []int
	}{
		{"no transition", impl.Net{Places: 3}, []int{50, 0, 50}, nil},
		{"a ring", ringNet(), []int{1, 0, 9}, nil},
		{"full, but with an end", impl.Net{Places: 1, Trans: []impl.Trans{{In: []int{0}, Out: []int{0}}}}, []int{50}, nil},
		{"what would grow is not enabled", growNet(2, 1), []int{0, 1}, nil},
		{"the first place", impl.Net{Places: 2, Trans: []impl.Trans{{In: []int{1}, Out: []int{0, 1}}}}, []int{0, 1}, []int{0}},
		{"the last place", growNet(2, 1), []int{1, 0}, []int{1}},
		{"the last of MaxPlaces", growNet(impl.MaxPlaces, last), append([]int{1}, filled(last, 0)...), []int{last}},
		{"the first and the last", impl.Net{Places: 3, Trans: []impl.Trans{{In: []int{1}, Out: []int{0, 1, 2}}}}, []int{0, 1, 0}, []int{0, 2}},
		{"in unlike nodes", impl.Net{Places: 5, Trans: []impl.Trans{{In: []int{0}, Out: []int{1}}, {In: []int{0}, Out: []int{2}}, {In: []int{1}, Out: []int{1, 4}}, {In: []int{2}, Out: []int{2, 3}}}}, []int{1, 0, 0, 0, 0}, []int{3, 4}},
		{"all places of two", allGrowNet(2), []int{1, 0}, []int{0, 1}},
		{"all of MaxPlaces", allGrowNet(impl.MaxPlaces), append([]int{1}, filled(last, 0)...), numbersTo(impl.MaxPlaces)},
		{"all, from full places", allGrowNet(impl.MaxPlaces), filled(impl.MaxPlaces, 50), numbersTo(impl.MaxPlaces)},
		{"one alone, and by it another one", twiceNet(), []int{1, 0, 0, 2}, []int{2, 3}},
		{"too little to begin", twiceNet(), []int{1, 0, 0, 1}, nil},
	}
	for _, c := range cases {
		if l, ok := impl.Unlimited(c.n, c.start, impl.MaxNodes); !ok || !slices.Equal(l, c.want) {
			t.Errorf("%s: %v %v", c.what, l, ok)
		}
		if is, ok := impl.IsBounded(c.n, c.start, impl.MaxNodes); !ok || is != (len(c.want) == 0) {
			t.Errorf("%s: %v %v", c.what, is, ok)
		}
		checkCover(t, c.n, c.start, impl.MaxNodes)
		checkEnd(t, c.n, c.start)
	}
}

func TestCanCover(t *testing.T) {
	grow := growNet(2, 1)
	// Either place 1 has Many, or place 2 has a token and Many is on none.
	either := impl.Net{Places: 3, Trans: []impl.Trans{{In: []int{0}, Out: []int{0, 1}}, {In: []int{0}, Out: []int{2}}}}
	cases := []struct {
		what     string
		n        impl.Net
		start, m []int
		want     bool
	}{
		{"by Many alone", grow, []int{1, 0}, []int{0, 1}, true},
		{"by Many alone, MaxTokens", grow, []int{1, 0}, []int{1, 50}, true},
		{"by a node without Many", grow, []int{1, 0}, []int{1, 0}, true},
		{"nothing is asked for", grow, []int{1, 0}, []int{0, 0}, true},
		{"by none, beside Many", grow, []int{1, 0}, []int{2, 50}, false},
		{"by none, where Many is not", grow, []int{1, 0}, []int{2, 0}, false},
		{"by the last node alone", flowWith(3).Net, []int{1, 0, 0}, []int{0, 1, 0}, true},
		{"by the one in the midst alone", flowWith(3).Net, []int{1, 0, 0}, []int{0, 0, 1}, true},
		{"by two nodes together, by none alone", flowWith(3).Net, []int{1, 0, 0}, []int{0, 1, 1}, false},
		{"Many and what comes in its place", either, []int{1, 0, 0}, []int{0, 50, 1}, true},
		{"one ahead of Many and what comes in its place", either, []int{1, 0, 0}, []int{1, 0, 1}, false},
		{"no transition, start", impl.Net{Places: 2}, []int{3, 50}, []int{3, 50}, true},
		{"no transition, less", impl.Net{Places: 2}, []int{3, 50}, []int{0, 49}, true},
		{"no transition, more", impl.Net{Places: 2}, []int{3, 49}, []int{3, 50}, false},
		{"no transition, no token", impl.Net{Places: 1}, []int{0}, []int{0}, true},
		{"all places", allGrowNet(2), []int{1, 0}, []int{50, 50}, true},
		{"no token to begin with", allGrowNet(2), []int{0, 0}, []int{1, 0}, false},
	}
	for _, c := range cases {
		if is, ok := impl.CanCover(c.n, c.start, impl.MaxNodes, c.m); !ok || is != c.want {
			t.Errorf("%s: %v %v", c.what, is, ok)
		}
		checkPromise5(t, c.n, c.start, [][]int{c.m})
	}
}

// checkCover holds all that is told of a tree against the document's words; the arguments are as said. It tells whether one is told.
func checkCover(t *testing.T, n impl.Net, start []int, budget int) bool {
	t.Helper()
	want, is := coverPlainly(n, start, budget)
	if !is {
		zeroOfCover(t, "a tree that is not told", n, start, budget, start)
		return false
	}
	if l, ok := impl.CoverTree(n, start, budget); !ok || !sameNodes(l, want) {
		t.Fatalf("CoverTree of %v from %v, budget %d: %v %v, not %v", n, start, budget, l, ok, want)
	}
	wide := unlimitedPlainly(want, n.Places)
	if is, ok := impl.IsBounded(n, start, budget); !ok || is != (len(wide) == 0) {
		t.Fatalf("IsBounded of %v from %v, budget %d: %v %v", n, start, budget, is, ok)
	}
	if l, ok := impl.Unlimited(n, start, budget); !ok || !slices.Equal(l, wide) {
		t.Fatalf("Unlimited of %v from %v, budget %d: %v %v", n, start, budget, l, ok)
	}
	for _, m := range [][]int{start, filled(n.Places, 0), filled(n.Places, 1), filled(n.Places, impl.MaxTokens)} {
		checkCanCover(t, n, start, budget, want, m)
	}
	for _, node := range want {
		checkCanCover(t, n, start, budget, want, narrowed(node.Mark))
	}
	return true
}

func checkCanCover(t *testing.T, n impl.Net, start []int, budget int, l []impl.CoverNode, m []int) {
	t.Helper()
	if is, ok := impl.CanCover(n, start, budget, m); !ok || is != canCoverPlainly(l, m) {
		t.Fatalf("CanCover %v of %v from %v, budget %d: %v %v", m, n, start, budget, is, ok)
	}
}

// narrowed is the greatest mark that a wide one covers.
func narrowed(m []int) []int {
	out := slices.Clone(m)
	for p := range out {
		out[p] = min(out[p], impl.MaxTokens)
	}
	return out
}

// checkPromise5 holds what CanCover tells of some marks against what can be come to, found from behind. It has how many of them are covered and how many are not, where that is found out.
func checkPromise5(t *testing.T, n impl.Net, start []int, marks [][]int) (int, int) {
	t.Helper()
	yes, no := 0, 0
	for _, m := range marks {
		is, ok := impl.CanCover(n, start, impl.MaxNodes, m)
		want, found := comesToCover(n, start, m)
		if !ok || !found {
			continue
		}
		if is != want {
			t.Fatalf("CanCover %v of %v from %v: %v, but %v by what can be come to", m, n, start, is, want)
		}
		if want {
			yes++
		} else {
			no++
		}
	}
	return yes, no
}

// checkEnd holds IsBounded and Unlimited against all marks that can be come to, and has whether there is an end to these.
func checkEnd(t *testing.T, n impl.Net, start []int) int {
	t.Helper()
	is, ok := impl.IsBounded(n, start, impl.MaxNodes)
	if !ok {
		return endNotFound
	}
	end := endOfMarks(n, start, 3000)
	if end != endNotFound && is != (end == endThere) {
		t.Fatalf("IsBounded of %v from %v: %v, but the marks have an end or none: %d", n, start, is, end)
	}
	l, _ := impl.CoverTree(n, start, impl.MaxNodes)
	wide, _ := impl.Unlimited(n, start, impl.MaxNodes)
	for p := range n.Places {
		bound := 0
		for _, node := range l {
			bound = max(bound, node.Mark[p])
		}
		m := filled(n.Places, 0)
		m[p] = bound + 1
		if bound == impl.Many {
			m[p] = impl.MaxTokens + 5
		}
		covered, found := comesToCover(n, start, m)
		if found && covered != slices.Contains(wide, p) {
			t.Fatalf("Unlimited of %v from %v: %v, but %d tokens on place %d: %v", n, start, wide, m[p], p, covered)
		}
	}
	return end
}

// All nets with up to two transitions of one place and of two, from all marks of few tokens and of nearly too many.
func TestAllSmallCovers(t *testing.T) {
	for _, n := range smallNets(2) {
		for _, start := range marksUpTo(n.Places, 2) {
			for _, budget := range []int{1, 2, 3, 4, 5, 7, 12, impl.MaxNodes} {
				checkCover(t, n, start, budget)
			}
			checkPromise5(t, n, start, marksUpTo(n.Places, 3))
			checkEnd(t, n, start)
			for p := range start {
				start[p] = impl.MaxTokens - start[p]
			}
			checkCover(t, n, start, impl.MaxNodes)
			checkEnd(t, n, start)
		}
	}
}

// Nets with two and three transitions of three places, from some marks each.
func TestSmallCovers(t *testing.T) {
	d := dice(51)
	all := transWithoutResets(3)
	told, ends := 0, map[int]int{}
	for range 6000 {
		n := impl.Net{Places: 3}
		for range 2 + d.below(2) {
			n.Trans = append(n.Trans, all[d.below(len(all))])
		}
		start := someSpaceMark(&d, 3)
		if checkCover(t, n, start, 1+d.below(impl.MaxNodes)) {
			told++
		}
		checkPromise5(t, n, start, [][]int{someMark(&d, 3, 1), someMark(&d, 3, 3), someMark(&d, 3, 9)})
		ends[checkEnd(t, n, start)]++
	}
	if told < 3000 || ends[endThere] < 1000 || ends[endNone] < 1000 {
		t.Errorf("only %d told, %v", told, ends)
	}
}

// someCoverNet is a net whose transitions mostly give no more than they take, so that most of its trees are not too great; in some of them one gives back what it takes, and a token to a place beside.
func someCoverNet(d *dice, places int, trans int) impl.Net {
	n := someNet(d, places, trans, false)
	for i, t := range n.Trans {
		if d.below(5) > 0 && len(t.Out) > len(t.In) {
			n.Trans[i].Out = t.Out[:len(t.In)]
		}
	}
	if trans > 0 && d.below(3) == 0 {
		i := d.below(trans)
		beside := append(slices.Clone(n.Trans[i].In), d.below(places))
		slices.Sort(beside)
		n.Trans[i].Out = slices.Compact(beside)
	}
	return n
}

// Promise 5, and all the rest, of nets of all sizes.
func TestCoversOfAllKinds(t *testing.T) {
	d := dice(5)
	told, over, nodes, old, wide, yes, no := 0, 0, 0, 0, 0, 0, 0
	ends := map[int]int{}
	for range 2500 {
		places := 1 + d.below(impl.MaxPlaces)
		n := someCoverNet(&d, places, d.below(10))
		start := someSpaceMark(&d, places)
		budget := []int{1, 1 + d.below(20), 1 + d.below(impl.MaxNodes), impl.MaxNodes}[d.below(4)]
		if !checkCover(t, n, start, budget) {
			over++
			continue
		}
		told++
		l, _ := impl.CoverTree(n, start, budget)
		nodes += len(l)
		for _, node := range l {
			if node.Old {
				old++
			}
			if slices.Contains(node.Mark, impl.Many) {
				wide++
			}
		}
		y, x := checkPromise5(t, n, start, [][]int{someMark(&d, places, 1), fewTokens(&d, places), fewTokens(&d, places)})
		yes, no = yes+y, no+x
		ends[checkEnd(t, n, start)]++
	}
	if told < 500 || over < 200 || nodes < 5000 || old < 1000 || wide < 1000 || yes < 100 || no < 100 || ends[endThere] < 100 || ends[endNone] < 100 {
		t.Errorf("only %d told, %d over, %d nodes, %d old, %d wide, %d covered, %d not, %v", told, over, nodes, old, wide, yes, no, ends)
	}
}

// fewTokens is a mark with a token on a few places.
func fewTokens(d *dice, places int) []int {
	m := filled(places, 0)
	for range 1 + d.below(2) {
		m[d.below(places)]++
	}
	return m
}

// Where all marks are found and no place widens, the nodes have just these marks.
func TestCoversOfSpaces(t *testing.T) {
	d := dice(54)
	both := 0
	for range 1500 {
		places := 1 + d.below(6)
		n := someCoverNet(&d, places, d.below(6))
		start := someSpaceMark(&d, places)
		s, code, _ := impl.Explore(n, start, impl.MaxMarks)
		l, ok := impl.CoverTree(n, start, impl.MaxNodes)
		if code != impl.SpAll || !ok {
			continue
		}
		both++
		var fresh [][]int
		for _, node := range l {
			if !node.Old {
				fresh = append(fresh, node.Mark)
			}
		}
		if is, _ := impl.IsBounded(n, start, impl.MaxNodes); !is || !sameRows(fresh, s.Marks) || len(l) != len(s.Arcs)+1 {
			t.Fatalf("%v from %v: bounded %v, nodes %v, marks %v", n, start, is, l, s.Marks)
		}
	}
	if both < 300 {
		t.Errorf("only %d", both)
	}
}

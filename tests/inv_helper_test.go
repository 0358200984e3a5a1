package tests

import (
	"math"
	"slices"
	"testing"

	"loop.example/g00662/impl"
)

// maxCount is the greatest count, maxInvPlaces are the most places that SmallInvariants takes.
const (
	maxCount     = 1000
	maxInvPlaces = 10
)

// changePlainly is ChangeBy by its words, of a net and counts of it as said.
func changePlainly(n impl.Net, counts []int) []int {
	change := filled(n.Places, 0)
	for i, t := range n.Trans {
		for _, p := range t.Out {
			change[p] += counts[i]
		}
		for _, p := range t.In {
			change[p] -= counts[i]
		}
	}
	return change
}

// countsPlainly is CountsOf by its words, of numbers of so many transitions.
func countsPlainly(trans int, seq []int) []int {
	counts := filled(trans, 0)
	for _, t := range seq {
		counts[t]++
	}
	return counts
}

// sumAt adds the numbers of some places.
func sumAt(numbers []int, places []int) int {
	sum := 0
	for _, p := range places {
		sum += numbers[p]
	}
	return sum
}

// invariantPlainly is IsInvariant by its words, of a net and weights of it as said.
func invariantPlainly(n impl.Net, weights []int) bool {
	return !slices.ContainsFunc(n.Trans, func(t impl.Trans) bool {
		return sumAt(weights, t.In) != sumAt(weights, t.Out)
	})
}

// weightPlainly is WeightOf by its words: each token weighs as much as its place says.
func weightPlainly(weights []int, m []int) int {
	sum := 0
	for p, tokens := range m {
		for range tokens {
			sum += weights[p]
		}
	}
	return sum
}

// onesOn are weights of 1 on some places and 0 elsewhere.
func onesOn(places int, set []int) []int {
	weights := filled(places, 0)
	for _, p := range set {
		weights[p] = 1
	}
	return weights
}

// within tells whether all of one set are in another one.
func within(a []int, b []int) bool {
	return !slices.ContainsFunc(a, func(p int) bool { return !slices.Contains(b, p) })
}

// numberOfSet counts each place 2 to its number.
func numberOfSet(set []int) int {
	number := 0
	for _, p := range set {
		number += int(math.Pow(2, float64(p)))
	}
	return number
}

// smallestOf are the sets of a list that have no other one of it within them, the one of a lesser number ahead.
func smallestOf(sets [][]int) [][]int {
	var small [][]int
	for _, set := range sets {
		if !slices.ContainsFunc(sets, func(o []int) bool { return len(o) < len(set) && within(o, set) }) {
			small = append(small, set)
		}
	}
	slices.SortFunc(small, func(a, b []int) int { return numberOfSet(a) - numberOfSet(b) })
	return small
}

// smallPlainly is SmallInvariants by its words, of a net as said.
func smallPlainly(n impl.Net) [][]int {
	sets := slices.DeleteFunc(listsOf(n.Places)[1:], func(set []int) bool { return !invariantPlainly(n, onesOn(n.Places, set)) })
	return smallestOf(sets)
}

// keptPlainly is IsKept by its words, of what SmallInvariants tells.
func keptPlainly(n impl.Net, sets [][]int) bool {
	return within(numbersTo(n.Places), slices.Concat(sets...))
}

// someCounts are counts of all kinds; few of them are 0 and 1000 where they are not small.
func someCounts(d *dice, trans int, small bool) []int {
	counts := make([]int, trans)
	for i := range counts {
		counts[i] = d.below(3)
		if !small {
			counts[i] = []int{0, 1, d.below(maxCount + 1), maxCount}[d.below(4)]
		}
	}
	return counts
}

func someWeights(d *dice, places int) []int {
	most := []int{1, 2, impl.MaxWeight}[d.below(3)]
	weights := make([]int, places)
	for p := range weights {
		weights[p] = d.below(2*most+1) - most
	}
	return weights
}

// keepingNet has transitions of any kind for which some weights are an invariant; there may be fewer of them than are asked for.
func keepingNet(d *dice, weights []int, trans int) impl.Net {
	n := impl.Net{Places: len(weights)}
	for range 20 * trans {
		t := someNet(d, n.Places, 1, false).Trans[0]
		if len(n.Trans) < trans && sumAt(weights, t.In) == sumAt(weights, t.Out) {
			n.Trans = append(n.Trans, t)
		}
	}
	return n
}

// groupNet has groups of places; each transition takes a token from some groups, and gives one back to each of these.
func groupNet(d *dice, places int, groups int, trans int) impl.Net {
	n := impl.Net{Places: places}
	groupOf := someSeq(d, places, groups)
	for range trans {
		in, out := map[int]int{}, map[int]int{}
		for range 2 * places {
			a, b := d.below(places), d.below(places)
			if groupOf[a] == groupOf[b] {
				in[groupOf[a]], out[groupOf[a]] = a, b
			}
		}
		var t impl.Trans
		for g := range groups {
			if _, ok := in[g]; ok && d.below(3) > 0 {
				t.In, t.Out = append(t.In, in[g]), append(t.Out, out[g])
			}
		}
		slices.Sort(t.In)
		slices.Sort(t.Out)
		if len(t.In) > 0 {
			n.Trans = append(n.Trans, t)
		}
	}
	return n
}

// wrongLists of numbers: so many of a good one are as said, but they are too few, too many, or one of them is none of those that stand beside.
func wrongNumberLists(many int, good int, wrong []int) [][]int {
	l := [][]int{filled(many+1, good), filled(many+2, good), filled(many+100, good), filled(many+1, 0)}
	if many > 0 {
		l = append(l, nil, []int{}, filled(many-1, good), filled(many-1, 0))
	}
	for _, k := range wrong {
		for at := range many {
			list := filled(many, good)
			list[at] = k
			l = append(l, list)
		}
		l = append(l, append(filled(many, good), k))
	}
	return l
}

// wrongCounts are no counts of so many transitions; some numbers are counts where their upper bits are lost.
func wrongCounts(trans int) [][]int {
	return wrongNumberLists(trans, 1, []int{-1, -2, -maxCount, maxCount + 1, maxCount + 2, 1 << 16, 1<<16 + 1, 1 << 32, 1<<32 + 1, -1 << 32, math.MinInt, math.MinInt + 1, math.MaxInt})
}

// wrongWeights are no weights of so many places, likewise.
func wrongWeights(places int) [][]int {
	most := impl.MaxWeight
	return wrongNumberLists(places, 1, []int{-most - 1, most + 1, -most - 2, most + 2, 100, -100, 256, 255, -256, 1 << 16, 1 << 32, 1<<32 + 1, -1 << 32, math.MinInt, math.MinInt + 1, math.MaxInt})
}

// zeroOfCounts fails where a function that takes counts tells something.
func zeroOfCounts(t *testing.T, what string, n impl.Net, counts []int) {
	t.Helper()
	if l, ok := impl.ChangeBy(n, counts); len(l) != 0 || ok {
		t.Errorf("ChangeBy %v, %s: %v %v", counts, what, l, ok)
	}
	if is, ok := impl.IsCycle(n, counts); is || ok {
		t.Errorf("IsCycle of %v, %s: %v %v", counts, what, is, ok)
	}
}

// zeroOfCountsOf fails where CountsOf tells something.
func zeroOfCountsOf(t *testing.T, what string, n impl.Net, seq []int) {
	t.Helper()
	if l, ok := impl.CountsOf(n, seq); len(l) != 0 || ok {
		t.Errorf("CountsOf %v, %s: %v %v", seq, what, l, ok)
	}
}

// zeroOfWeightOf fails where WeightOf tells something.
func zeroOfWeightOf(t *testing.T, what string, n impl.Net, weights []int, m []int) {
	t.Helper()
	if k, ok := impl.WeightOf(n, weights, m); k != 0 || ok {
		t.Errorf("WeightOf %v by %v, %s: %v %v", m, weights, what, k, ok)
	}
}

// zeroOfWeights fails where a function that takes weights tells something.
func zeroOfWeights(t *testing.T, what string, n impl.Net, weights []int, m []int) {
	t.Helper()
	if is, ok := impl.IsInvariant(n, weights); is || ok {
		t.Errorf("IsInvariant of %v, %s: %v %v", weights, what, is, ok)
	}
	zeroOfWeightOf(t, what, n, weights, m)
}

// zeroOfSmall fails where a function that goes through all sets of places tells something.
func zeroOfSmall(t *testing.T, what string, n impl.Net) {
	t.Helper()
	if l, ok := impl.SmallInvariants(n); len(l) != 0 || ok {
		t.Errorf("SmallInvariants, %s: %v %v", what, l, ok)
	}
	if is, ok := impl.IsKept(n); is || ok {
		t.Errorf("IsKept, %s: %v %v", what, is, ok)
	}
}

// zeroOfInv fails where a function of the chapter tells something; what stands beside the net is as said, where it has some number of places.
func zeroOfInv(t *testing.T, what string, n impl.Net, counts []int, weights []int, m []int) {
	t.Helper()
	zeroOfCounts(t, what, n, counts)
	for _, seq := range [][]int{nil, {0}, {-1}, filled(impl.MaxSeq+1, 0)} {
		zeroOfCountsOf(t, what, n, seq)
	}
	zeroOfWeights(t, what, n, weights, m)
	zeroOfSmall(t, what, n)
}

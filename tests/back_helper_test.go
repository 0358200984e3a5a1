package tests

import (
	"math"
	"slices"
	"testing"

	"loop.example/g00662/impl"
)

// stepBackPlainly is StepBack by its words, of a transition that a good net has, however many tokens a place has then; false where there is none.
func stepBackPlainly(t impl.Trans, m []int) ([]int, bool) {
	ahead := slices.Clone(m)
	for p, k := range m {
		in, out := slices.Contains(t.In, p), slices.Contains(t.Out, p)
		if slices.Contains(t.Reset, p) {
			if out && k >= 2 || !out && k >= 1 {
				return nil, false
			}
			ahead[p] = 0
		} else if out {
			ahead[p] = max(k-1, 0)
		}
		if in {
			ahead[p]++
		}
	}
	return ahead, true
}

// layersPlainly has the marks behind each round of BackBasis by its words, m alone first, of a good net, a good mark of it and a budget as said.
func layersPlainly(n impl.Net, m []int, budget int) ([][][]int, bool) {
	layers := [][][]int{{m}}
	for {
		last := layers[len(layers)-1]
		all := cloneRows(last)
		for _, x := range last {
			for _, t := range n.Trans {
				ahead, ok := stepBackPlainly(t, x)
				if ok && slices.Max(ahead) > impl.MaxTokens {
					return nil, false
				}
				if ok {
					all = append(all, ahead)
				}
			}
		}
		slices.SortFunc(all, slices.Compare[[]int])
		next := leastPlainly(slices.CompactFunc(all, slices.Equal[[]int]))
		if len(next) > budget {
			return nil, false
		}
		if sameRows(next, last) {
			return layers, true
		}
		layers = append(layers, next)
	}
}

// coversOne tells whether a mark covers one of some.
func coversOne(m []int, l [][]int) bool {
	return slices.ContainsFunc(l, func(x []int) bool { return coversPlainly(m, x) })
}

// fireFreely fires a transition, however many tokens a place has then.
func fireFreely(t impl.Trans, m []int) []int {
	behind := slices.Clone(m)
	for _, p := range t.In {
		behind[p]--
	}
	for _, p := range t.Reset {
		behind[p] = 0
	}
	for _, p := range t.Out {
		behind[p]++
	}
	return behind
}

// leadDown fires from a mark to ones that cover an earlier layer each time, and has the mark in the end; false where nothing that is enabled does.
func leadDown(n impl.Net, from []int, layers [][][]int) ([]int, bool) {
	covers := func(l [][]int) bool { return coversOne(from, l) }
	for at := slices.IndexFunc(layers, covers); at != 0; at = slices.IndexFunc(layers, covers) {
		nearer := func(t impl.Trans) bool {
			return enabledPlainly(t, from) && coversOne(fireFreely(t, from), layers[at-1])
		}
		if at < 0 || !slices.ContainsFunc(n.Trans, nearer) {
			return nil, false
		}
		from = fireFreely(n.Trans[slices.IndexFunc(n.Trans, nearer)], from)
	}
	return from, true
}

// metFreely has up to so many marks that can be come to, however many tokens a place has, and more of the last one's.
func metFreely(n impl.Net, start []int, most int) [][]int {
	met := [][]int{start}
	seen := map[string]bool{keyOf(start): true}
	for i := 0; i < len(met) && len(met) < most; i++ {
		for _, t := range n.Trans {
			if !enabledPlainly(t, met[i]) {
				continue
			}
			behind := fireFreely(t, met[i])
			if !seen[keyOf(behind)] {
				seen[keyOf(behind)] = true
				met = append(met, behind)
			}
		}
	}
	return met
}

// wrongBasisBudgets are no budgets of a basis; some of them are one where their upper bits are lost.
func wrongBasisBudgets() []int {
	return []int{0, -1, -2, -impl.MaxBasis, impl.MaxBasis + 1, impl.MaxBasis + 2, impl.MaxNodes, impl.MaxMarks, 1000, 256 + 10, -256 + 10, 1<<16 + 10, 1 << 32, 1<<32 + 10, -1<<32 + 10, math.MinInt, math.MinInt + 10, math.MaxInt}
}

// zeroOfStepBack fails where StepBack tells something.
func zeroOfStepBack(t *testing.T, what string, n impl.Net, number int, m []int) {
	t.Helper()
	if x, ok := impl.StepBack(n, number, m); len(x) != 0 || ok {
		t.Errorf("StepBack %d from %v, %s: %v %v", number, m, what, x, ok)
	}
}

// zeroOfBasis fails where a function that needs a basis tells something.
func zeroOfBasis(t *testing.T, what string, n impl.Net, start []int, m []int, budget int) {
	t.Helper()
	if l, ok := impl.BackBasis(n, m, budget); len(l) != 0 || ok {
		t.Errorf("BackBasis of %v, budget %d, %s: %v %v", m, budget, what, l, ok)
	}
	if k, ok := impl.BackRounds(n, m, budget); k != 0 || ok {
		t.Errorf("BackRounds of %v, budget %d, %s: %v %v", m, budget, what, k, ok)
	}
	zeroOfCoversBack(t, what, n, start, m, budget)
}

func zeroOfCoversBack(t *testing.T, what string, n impl.Net, start []int, m []int, budget int) {
	t.Helper()
	if is, ok := impl.CoversBack(n, start, m, budget); is || ok {
		t.Errorf("CoversBack of %v from %v, budget %d, %s: %v %v", m, start, budget, what, is, ok)
	}
}

// dropNet has, from a token on place 0, four marks behind the first round, three behind the second one and all further ones: [0 1 1 0 0], [0 1 0 1 0] fall out by [0 1 0 0 0].
func dropNet() impl.Net {
	return impl.Net{Places: 5, Trans: []impl.Trans{
		{In: []int{1, 2}, Out: []int{0}},
		{In: []int{1, 3}, Out: []int{0}},
		{In: []int{4}, Out: []int{0}},
		{In: []int{1}, Out: []int{4}},
	}}
}

// sinkNet gives tokens to places 0 and 1 as long as there is one on place 2.
func sinkNet() impl.Net {
	return impl.Net{Places: 3, Trans: []impl.Trans{{In: []int{2}, Out: []int{0, 2}}, {In: []int{2}, Out: []int{1, 2}}}}
}

// crossNet covers a token on place 0 and one on place 1 by so many marks of two tokens: with as many ways to the one as ones are told, and to the other.
func crossNet(ones int, others int) impl.Net {
	n := impl.Net{Places: impl.MaxPlaces}
	for p := 2; p < ones+1; p++ {
		n.Trans = append(n.Trans, impl.Trans{In: []int{p}, Out: []int{0}})
	}
	for p := ones + 1; p < ones+others; p++ {
		n.Trans = append(n.Trans, impl.Trans{In: []int{p}, Out: []int{1}})
	}
	return n
}

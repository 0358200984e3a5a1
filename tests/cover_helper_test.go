package tests

import (
	"fmt"
	"math"
	"slices"
	"testing"

	"loop.example/g00662/impl"
)

// atLeastWide tells whether a number of a wide mark is at least another one.
func atLeastWide(a int, b int) bool {
	return a == impl.Many || b != impl.Many && a >= b
}

// coversWide tells whether a wide mark has at least as many as another one on each place.
func coversWide(a []int, b []int) bool {
	for p := range a {
		if !atLeastWide(a[p], b[p]) {
			return false
		}
	}
	return true
}

// fireWide is the wide mark to which a transition without Resets fires, however many tokens a place has then.
func fireWide(t impl.Trans, m []int) []int {
	behind := slices.Clone(m)
	for _, p := range t.In {
		if behind[p] != impl.Many {
			behind[p]--
		}
	}
	for _, p := range t.Out {
		if behind[p] != impl.Many {
			behind[p]++
		}
	}
	return behind
}

// widenPlainly changes a wide mark that comes behind a node by the document's words.
func widenPlainly(l []impl.CoverNode, number int, m []int) {
	for at := number; at >= 0; at = l[at].Parent {
		up := l[at].Mark
		if !coversWide(m, up) || slices.Equal(m, up) {
			continue
		}
		for p := range m {
			if m[p] != up[p] {
				m[p] = impl.Many
			}
		}
	}
}

// coverPlainly is CoverTree by its words, of a good net without Resets, a good mark of it and a budget as said.
func coverPlainly(n impl.Net, start []int, budget int) ([]impl.CoverNode, bool) {
	l := []impl.CoverNode{{Mark: slices.Clone(start), Parent: -1, By: -1}}
	for i := 0; i < len(l) && len(l) <= budget; i++ {
		for k := range i {
			l[i].Old = l[i].Old || slices.Equal(l[k].Mark, l[i].Mark)
		}
		if l[i].Old {
			continue
		}
		for by, t := range n.Trans {
			if enabledPlainly(t, l[i].Mark) {
				m := fireWide(t, l[i].Mark)
				widenPlainly(l, i, m)
				l = append(l, impl.CoverNode{Mark: m, Parent: i, By: by})
			}
		}
	}
	for _, node := range l {
		for _, k := range node.Mark {
			if k > impl.MaxTokens && k != impl.Many {
				return nil, false
			}
		}
	}
	if len(l) > budget {
		return nil, false
	}
	return l, true
}

// unlimitedPlainly is Unlimited by its words, of the nodes that CoverTree tells.
func unlimitedPlainly(l []impl.CoverNode, places int) []int {
	var out []int
	for p := range places {
		if slices.ContainsFunc(l, func(node impl.CoverNode) bool { return node.Mark[p] == impl.Many }) {
			out = append(out, p)
		}
	}
	return out
}

// canCoverPlainly is CanCover by its words, of the nodes that CoverTree tells.
func canCoverPlainly(l []impl.CoverNode, m []int) bool {
	return slices.ContainsFunc(l, func(node impl.CoverNode) bool { return coversWide(node.Mark, m) })
}

// backPlainly has the least marks from which a mark can be covered, however many tokens there are on the way; false where they become too many to go on. It knows nothing of wide marks.
func backPlainly(n impl.Net, m []int, most int) ([][]int, bool) {
	basis := [][]int{m}
	for i := 0; i < len(basis); i++ {
		for _, t := range n.Trans {
			ahead := slices.Clone(basis[i])
			for _, p := range t.Out {
				ahead[p] = max(ahead[p]-1, 0)
			}
			for _, p := range t.In {
				ahead[p]++
			}
			if !slices.ContainsFunc(basis, func(x []int) bool { return coversPlainly(ahead, x) }) {
				basis = append(basis, ahead)
			}
		}
		if len(basis) > most {
			return nil, false
		}
	}
	return basis, true
}

// comesToCover tells whether a mark that can be come to covers a mark; false behind it where that is not found out.
func comesToCover(n impl.Net, start []int, m []int) (bool, bool) {
	basis, ok := backPlainly(n, m, 400)
	return slices.ContainsFunc(basis, func(x []int) bool { return coversPlainly(start, x) }), ok
}

// An end to the marks, none, or neither found out.
const (
	endNotFound = iota
	endThere
	endNone
)

// endOfMarks goes through all marks, however many tokens they have. A mark that covers an unlike one from which it was come to shows that there is no end to them; where all were gone through there is one.
func endOfMarks(n impl.Net, start []int, most int) int {
	type met struct {
		m  []int
		by int
	}
	all := []met{{start, -1}}
	seen := map[string]bool{fmt.Sprint(start): true}
	for i := 0; i < len(all); i++ {
		for _, t := range n.Trans {
			if !enabledPlainly(t, all[i].m) {
				continue
			}
			behind := fireAnyhow(t, all[i].m)
			for at := i; at >= 0; at = all[at].by {
				if coversPlainly(behind, all[at].m) && !slices.Equal(behind, all[at].m) {
					return endNone
				}
			}
			if key := fmt.Sprint(behind); !seen[key] {
				seen[key] = true
				all = append(all, met{behind, i})
			}
		}
		if len(all) > most {
			return endNotFound
		}
	}
	return endThere
}

// fireAnyhow fires a transition without Resets, however many tokens a place has then.
func fireAnyhow(t impl.Trans, m []int) []int {
	behind := slices.Clone(m)
	for _, p := range t.In {
		behind[p]--
	}
	for _, p := range t.Out {
		behind[p]++
	}
	return behind
}

func sameNode(a, b impl.CoverNode) bool {
	return slices.Equal(a.Mark, b.Mark) && a.Parent == b.Parent && a.By == b.By && a.Old == b.Old
}

func sameNodes(a, b []impl.CoverNode) bool {
	return slices.EqualFunc(a, b, sameNode)
}

func cloneNodes(l []impl.CoverNode) []impl.CoverNode {
	out := slices.Clone(l)
	for i := range out {
		out[i].Mark = slices.Clone(out[i].Mark)
	}
	return out
}

// scribbleNodes writes over all the memory that nodes hand out.
func scribbleNodes(l []impl.CoverNode) {
	l = l[:cap(l)]
	for i := range l {
		scribble(l[i].Mark)
		l[i] = impl.CoverNode{Parent: -99, By: -99, Old: true}
	}
}

// wrongNodeBudgets are no budgets of a tree; some of them are one where their upper bits are lost.
func wrongNodeBudgets() []int {
	return []int{0, -1, -2, -impl.MaxNodes, impl.MaxNodes + 1, impl.MaxNodes + 2, impl.MaxMarks, 1000, 1 << 32, 1<<32 + 100, -1<<32 + 100, 1<<16 + 100, math.MinInt, math.MinInt + 100, math.MaxInt}
}

// zeroOfCover fails where a function of the chapter tells something.
func zeroOfCover(t *testing.T, what string, n impl.Net, start []int, budget int, m []int) {
	t.Helper()
	if l, ok := impl.CoverTree(n, start, budget); len(l) != 0 || ok {
		t.Errorf("CoverTree, %s: %v %v", what, l, ok)
	}
	if is, ok := impl.IsBounded(n, start, budget); is || ok {
		t.Errorf("IsBounded, %s: %v %v", what, is, ok)
	}
	if l, ok := impl.Unlimited(n, start, budget); len(l) != 0 || ok {
		t.Errorf("Unlimited, %s: %v %v", what, l, ok)
	}
	zeroOfCanCover(t, what, n, start, budget, m)
}

func zeroOfCanCover(t *testing.T, what string, n impl.Net, start []int, budget int, m []int) {
	t.Helper()
	if is, ok := impl.CanCover(n, start, budget, m); is || ok {
		t.Errorf("CanCover %v, %s: %v %v", m, what, is, ok)
	}
}

// twiceNet widens a place against the node itself, and by that another one against a node that was not covered ahead of that.
func twiceNet() impl.Net {
	return impl.Net{Places: 4, Trans: []impl.Trans{
		{In: []int{0, 3}, Out: []int{1}},
		{In: []int{1, 3}, Out: []int{0, 2}},
		{In: []int{2}, Out: []int{2, 3}},
	}}
}

// allGrowNet gives more and more tokens to all of its places.
func allGrowNet(places int) impl.Net {
	return impl.Net{Places: places, Trans: []impl.Trans{
		{In: []int{0}, Out: numbersTo(places)},
		{In: []int{1}, Out: []int{0, 1}},
	}}
}

// burnNet has a token that is burnt at a time, and so many transitions beside that give back what they take: its tree has a node for each of the marks, and so many more for each.
func burnNet(loops int) impl.Net {
	n := impl.Net{Places: 2, Trans: []impl.Trans{{In: []int{0}}}}
	for range loops {
		n.Trans = append(n.Trans, impl.Trans{In: []int{1}, Out: []int{1}})
	}
	return n
}

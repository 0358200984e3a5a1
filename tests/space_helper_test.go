package tests

import (
	"math"
	"slices"
	"testing"

	"loop.example/g00662/impl"
)

// keyOf is a mark as a text that no other one has.
func keyOf(m []int) string {
	key := make([]byte, len(m))
	for p, n := range m {
		key[p] = byte(n)
	}
	return string(key)
}

// explorePlainly is Explore by its words, of a good net, a good mark of it and a budget as said.
func explorePlainly(n impl.Net, start []int, budget int) (impl.Space, int) {
	s := impl.Space{Marks: [][]int{start}}
	numbers := map[string]int{keyOf(start): 0}
	for i := 0; i < len(s.Marks); i++ {
		for by, t := range n.Trans {
			if !enabledPlainly(t, s.Marks[i]) {
				continue
			}
			behind, ok := firePlainly(t, s.Marks[i])
			if !ok {
				return impl.Space{}, impl.SpTokens
			}
			to, old := numbers[keyOf(behind)]
			if !old && len(s.Marks) == budget {
				return impl.Space{}, impl.SpBudget
			}
			if !old {
				to = len(s.Marks)
				numbers[keyOf(behind)] = to
				s.Marks = append(s.Marks, behind)
			}
			s.Arcs = append(s.Arcs, impl.Arc{From: i, By: by, To: to})
		}
	}
	return s, impl.SpAll
}

// numberPlainly is the number of a mark in a space, -1 where it is not there.
func numberPlainly(s impl.Space, m []int) int {
	return slices.IndexFunc(s.Marks, func(x []int) bool { return slices.Equal(x, m) })
}

// fromPlainly tells of each mark of a space whether one can come to it from one.
func fromPlainly(s impl.Space, number int) []bool {
	come := make([]bool, len(s.Marks))
	come[number] = true
	for more := true; more; {
		more = false
		for _, a := range s.Arcs {
			if come[a.From] && !come[a.To] {
				come[a.To], more = true, true
			}
		}
	}
	return come
}

// farPlainly has for each mark of a space how many arcs at least lead from it to one; a great number where none do.
func farPlainly(s impl.Space, number int) []int {
	far := filled(len(s.Marks), math.MaxInt/2)
	far[number] = 0
	for more := true; more; {
		more = false
		for _, a := range s.Arcs {
			if far[a.To]+1 < far[a.From] {
				far[a.From], more = far[a.To]+1, true
			}
		}
	}
	return far
}

// wayPlainly is WayTo by its words, of a space that is told: at each step the least transition by which the rest is as short as can be.
func wayPlainly(s impl.Space, m []int) ([]int, bool) {
	number := numberPlainly(s, m)
	if number < 0 {
		return nil, false
	}
	far := farPlainly(s, number)
	if far[0] > impl.MaxSeq {
		return nil, false
	}
	var way []int
	for at := 0; at != number; {
		best := impl.Arc{By: math.MaxInt}
		for _, a := range s.Arcs {
			if a.From == at && far[a.To] == far[at]-1 && a.By < best.By {
				best = a
			}
		}
		way = append(way, best.By)
		at = best.To
	}
	return way, true
}

// alwaysPlainly tells whether from each mark of a space one can come to one of which that holds.
func alwaysPlainly(s impl.Space, holds func(m []int) bool) bool {
	for i := range s.Marks {
		met := false
		for k, come := range fromPlainly(s, i) {
			met = met || come && holds(s.Marks[k])
		}
		if !met {
			return false
		}
	}
	return true
}

func livePlainly(n impl.Net, s impl.Space) bool {
	for _, t := range n.Trans {
		if !alwaysPlainly(s, func(m []int) bool { return enabledPlainly(t, m) }) {
			return false
		}
	}
	return true
}

func homePlainly(s impl.Space, home []int) bool {
	return alwaysPlainly(s, func(m []int) bool { return slices.Equal(m, home) })
}

func deadTransPlainly(n impl.Net, s impl.Space) []int {
	var dead []int
	for t := range n.Trans {
		if !slices.ContainsFunc(s.Arcs, func(a impl.Arc) bool { return a.By == t }) {
			dead = append(dead, t)
		}
	}
	return dead
}

func firstDeadPlainly(n impl.Net, s impl.Space) ([]int, bool) {
	for _, m := range s.Marks {
		if !slices.ContainsFunc(n.Trans, func(t impl.Trans) bool { return enabledPlainly(t, m) }) {
			return m, true
		}
	}
	return nil, false
}

func boundPlainly(s impl.Space, place int) int {
	bound := 0
	for _, m := range s.Marks {
		bound = max(bound, m[place])
	}
	return bound
}

func sameSpace(a, b impl.Space) bool {
	return sameRows(a.Marks, b.Marks) && slices.Equal(a.Arcs, b.Arcs)
}

func cloneSpace(s impl.Space) impl.Space {
	return impl.Space{Marks: cloneRows(s.Marks), Arcs: slices.Clone(s.Arcs)}
}

// scribbleSpace writes over all the memory that a space hands out.
func scribbleSpace(s impl.Space) {
	scribbleRows(s.Marks)
	for i := range s.Arcs[:cap(s.Arcs)] {
		s.Arcs[:cap(s.Arcs)][i] = impl.Arc{From: -99, By: -99, To: -99}
	}
}

// wrongBudgets are no budgets; some of them are one where their upper bits are lost.
func wrongBudgets() []int {
	return []int{0, -1, -2, -impl.MaxMarks, impl.MaxMarks + 1, impl.MaxMarks + 2, 1000, 1 << 32, 1<<32 + 1, -1<<32 + 1, 1<<16 + 1, math.MinInt, math.MinInt + 1, math.MaxInt}
}

// zeroBeyond fails where a function that needs a whole space tells something.
func zeroBeyond(t *testing.T, what string, n impl.Net, start []int, budget int, m []int) {
	t.Helper()
	zeroAt(t, what, n, start, budget, m)
	if x, ok := impl.FirstDead(n, start, budget); len(x) != 0 || ok {
		t.Errorf("FirstDead, %s: %v %v", what, x, ok)
	}
	if l, ok := impl.DeadTrans(n, start, budget); len(l) != 0 || ok {
		t.Errorf("DeadTrans, %s: %v %v", what, l, ok)
	}
	for _, p := range []int{0, n.Places - 1, n.Places, -1} {
		if k, ok := impl.BoundOf(n, start, budget, p); k != 0 || ok {
			t.Errorf("BoundOf %d, %s: %v %v", p, what, k, ok)
		}
	}
	if is, ok := impl.IsLive(n, start, budget); is || ok {
		t.Errorf("IsLive, %s: %v %v", what, is, ok)
	}
}

// zeroAt fails where a function that takes a further mark tells something.
func zeroAt(t *testing.T, what string, n impl.Net, start []int, budget int, m []int) {
	t.Helper()
	if l, ok := impl.WayTo(n, start, budget, m); len(l) != 0 || ok {
		t.Errorf("WayTo, %s: %v %v", what, l, ok)
	}
	if is, ok := impl.CanCome(n, start, budget, m); is || ok {
		t.Errorf("CanCome, %s: %v %v", what, is, ok)
	}
	if is, ok := impl.IsHome(n, start, budget, m); is || ok {
		t.Errorf("IsHome, %s: %v %v", what, is, ok)
	}
}

// zeroOfSpace fails where a function of the chapter tells something of arguments that are not as said.
func zeroOfSpace(t *testing.T, what string, n impl.Net, start []int, budget int, m []int) {
	t.Helper()
	if s, code, ok := impl.Explore(n, start, budget); !sameSpace(s, impl.Space{}) || code != 0 || ok {
		t.Errorf("Explore, %s: %v %v %v", what, s, code, ok)
	}
	zeroBeyond(t, what, n, start, budget, m)
}

// gridNet takes tokens from each of so many places alone, so that it has a mark for each lesser mark than start.
func gridNet(places int) impl.Net {
	n := impl.Net{Places: places}
	for p := range places {
		n.Trans = append(n.Trans, impl.Trans{In: []int{p}})
	}
	return n
}

// ringNet goes round and round two places, and burns a token of the third at each round: its marks are one row.
func ringNet() impl.Net {
	return impl.Net{Places: 3, Trans: []impl.Trans{{In: []int{0}, Out: []int{1}}, {In: []int{1, 2}, Out: []int{0}}}}
}

// ringMark is the mark of ringNet so many steps behind one with a token on place 0 and so many to burn.
func ringMark(fuel int, steps int) []int {
	return []int{1 - steps%2, steps % 2, fuel - steps/2}
}

// growNet gives a token to a place at each firing.
func growNet(places int, place int) impl.Net {
	return impl.Net{Places: places, Trans: []impl.Trans{{In: []int{0}, Out: []int{0, place}}}}
}

// loopNet has one place, and a transition that gives back what it takes.
func loopNet() impl.Net {
	return impl.Net{Places: 1, Trans: []impl.Trans{{In: []int{0}, Out: []int{0}}}}
}

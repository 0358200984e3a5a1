package tests

import (
	"slices"
	"testing"

	"loop.example/g00662/impl"
)

// Promise 22 at wrong nets: the zero answer, no panic, nothing written.
func TestBasesOfWrongNets(t *testing.T) {
	for _, w := range wrongNets() {
		n, was := guardedNet(w.n), cloneNet(w.n)
		mark := markBeside(w.n)
		start, m := guardedList(mark), guardedList(mark)
		quietly(t, w.what, func() {
			zeroOfBasis(t, w.what, n, start, m, impl.MaxBasis)
			for _, number := range []int{0, -1, 1, len(n.Trans) - 1} {
				zeroOfStepBack(t, w.what, n, number, m)
			}
		})
		untouchedNet(t, w.what, n, was)
		untouched(t, w.what, start, mark)
		untouched(t, w.what, m, mark)
	}
}

// A good net with a start, or a mark that is to be covered, that is none of its places.
func TestBasesOfWrongMarks(t *testing.T) {
	for _, w := range wrongMarks() {
		net := impl.Net{Places: w.places, Trans: []impl.Trans{{In: []int{0}, Out: []int{0}}}}
		beside := goodBeside(w)
		n, wrong, good := guardedNet(net), guardedList(w.m), guardedList(beside)
		quietly(t, w.what, func() {
			zeroOfStepBack(t, w.what, n, 0, wrong)
			zeroOfBasis(t, w.what, n, good, wrong, impl.MaxBasis)
			zeroOfBasis(t, w.what, n, wrong, wrong, impl.MaxBasis)
			zeroOfCoversBack(t, w.what, n, wrong, good, impl.MaxBasis)
		})
		untouchedNet(t, w.what, n, net)
		untouched(t, w.what, wrong, w.m)
		untouched(t, w.what, good, beside)
	}
	for _, m := range [][]int{nil, {1}, {1, 1}, {1, 1, 1, 1}, {1, 1, -1}, {1, 1, impl.MaxTokens + 1}, {1, 1, impl.Many}, {impl.MaxTokens + 1, 0, 0}} {
		for _, n := range []impl.Net{gridNet(3), growNet(3, 2), spaceNet(), {Places: 3}} {
			zeroOfStepBack(t, "a mark of other places", n, 0, m)
			zeroOfBasis(t, "a mark of other places", n, []int{1, 1, 1}, m, impl.MaxBasis)
			zeroOfCoversBack(t, "a start of other places", n, m, []int{1, 1, 1}, impl.MaxBasis)
			zeroOfCoversBack(t, "a start of other places, no token to cover", n, m, []int{0, 0, 0}, impl.MaxBasis)
		}
	}
}

func TestStepBackOfWrongNumbers(t *testing.T) {
	net := impl.Net{Places: 2, Trans: []impl.Trans{{In: []int{0}, Out: []int{1}}, {In: []int{0}, Reset: []int{1}}}}
	for _, number := range wrongNumbers(len(net.Trans)) {
		n, m := guardedNet(net), guardedList([]int{3, 0})
		quietly(t, "a number that is none", func() { zeroOfStepBack(t, "a number that is none", n, number, m) })
		untouchedNet(t, "a number that is none", n, net)
		untouched(t, "a number that is none", m, []int{3, 0})
	}
	for _, number := range wrongNumbers(impl.MaxTrans) {
		full := impl.Net{Places: 1, Trans: slices.Repeat([]impl.Trans{{In: []int{0}}}, impl.MaxTrans)}
		zeroOfStepBack(t, "none of MaxTrans", full, number, []int{1})
	}
	zeroOfStepBack(t, "no transition", impl.Net{Places: 1}, 0, []int{1})
}

func TestWrongBasisBudgets(t *testing.T) {
	for _, net := range []impl.Net{{Places: 3}, gridNet(3), growNet(3, 2), spaceNet()} {
		for _, budget := range wrongBasisBudgets() {
			n, start, m := guardedNet(net), guardedList([]int{1, 0, 1}), guardedList([]int{1, 0, 1})
			quietly(t, "a wrong budget", func() { zeroOfBasis(t, "a wrong budget", n, start, m, budget) })
			untouchedNet(t, "a wrong budget", n, net)
			untouched(t, "a wrong budget", start, []int{1, 0, 1})
			untouched(t, "a wrong budget", m, []int{1, 0, 1})
		}
		if l, ok := impl.BackBasis(net, []int{1, 0, 1}, impl.MaxBasis); !ok || len(l) == 0 {
			t.Error("the greatest budget", l, ok)
		}
		if l, ok := impl.BackBasis(net, []int{0, 0, 0}, 1); !ok || len(l) != 1 {
			t.Error("the least budget", l, ok)
		}
	}
}

// Where no step back, or no basis, is told nothing is written either.
func TestBasesThatAreNotToldWriteNothing(t *testing.T) {
	emptied := impl.Net{Places: 2, Trans: []impl.Trans{{In: []int{0}, Reset: []int{1}}}}
	for _, c := range []struct {
		what   string
		n      impl.Net
		m      []int
		budget int
	}{
		{"budget", dropNet(), []int{1, 0, 0, 0, 0}, 3},
		{"MaxTokens", emptied, []int{impl.MaxTokens, 0}, impl.MaxBasis},
		{"MaxTokens in a later round", impl.Net{Places: 2, Trans: []impl.Trans{{In: []int{0}, Out: []int{1}}}}, []int{impl.MaxTokens - 1, 1}, impl.MaxBasis},
	} {
		n, start, m := guardedNet(c.n), guardedList(c.m), guardedList(c.m)
		quietly(t, c.what, func() { zeroOfBasis(t, c.what, n, start, m, c.budget) })
		untouchedNet(t, c.what, n, c.n)
		untouched(t, c.what, start, c.m)
		untouched(t, c.what, m, c.m)
	}
	for _, to := range [][]int{{0, 1}, {impl.MaxTokens, impl.MaxTokens}} {
		n, m := guardedNet(emptied), guardedList(to)
		zeroOfStepBack(t, "there is none", n, 0, m)
		untouchedNet(t, "there is none", n, emptied)
		untouched(t, "there is none", m, to)
	}
}

// Promise 22 at good arguments: nothing is written, an answer is new memory, and the same is answered again.
func TestStepsBackAreNew(t *testing.T) {
	was, to := spaceNet(), []int{0, 1, 0}
	n, m := guardedNet(was), guardedList(to)
	for number, want := range [][]int{{1, 0, 0}, {0, 2, 0}, {1, 1, 0}, {1, 2, 1}} {
		for range 2 {
			l, ok := impl.StepBack(n, number, m)
			if !ok || !slices.Equal(l, want) {
				t.Errorf("StepBack %d: %v %v", number, l, ok)
			}
			scribble(l)
			untouchedNet(t, "StepBack", n, was)
			untouched(t, "StepBack", m, to)
		}
	}
}

// One mark of an answer is written over, up to its capacity: no other one and no argument is changed by it.
func TestBasesAreNew(t *testing.T) {
	was, to := dropNet(), []int{2, 0, 0, 0, 0}
	layers, _ := layersPlainly(was, to, impl.MaxBasis)
	want := layers[len(layers)-1]
	n, m := guardedNet(was), guardedList(to)
	rowsOwnMemory(t, "BackBasis", want, func() ([][]int, bool) { return impl.BackBasis(n, m, impl.MaxBasis) }, func() {
		untouchedNet(t, "BackBasis", n, was)
		untouched(t, "BackBasis", m, to)
	})
}

// A basis of the mark alone is new memory too.
func TestSmallestBasisIsNew(t *testing.T) {
	m := guardedList([]int{2, 3})
	for range 2 {
		l, ok := impl.BackBasis(impl.Net{Places: 2}, m, 1)
		if !ok || !sameRows(l, [][]int{{2, 3}}) {
			t.Fatalf("BackBasis: %v %v", l, ok)
		}
		scribbleRows(l)
		untouched(t, "BackBasis", m, []int{2, 3})
	}
}

func TestWhatIsToldOfBasesWritesNothing(t *testing.T) {
	was, from, to := dropNet(), []int{0, 1, 0, 0, 0}, []int{1, 0, 0, 0, 0}
	n, start, m := guardedNet(was), guardedList(from), guardedList(to)
	for range 2 {
		if is, ok := impl.CoversBack(n, start, m, 4); !is || !ok {
			t.Error("CoversBack", is, ok)
		}
		if k, ok := impl.BackRounds(n, m, 4); k != 2 || !ok {
			t.Error("BackRounds", k, ok)
		}
		untouchedNet(t, "told", n, was)
		untouched(t, "told", start, from)
		untouched(t, "told", m, to)
	}
}

// Lists of an argument may share memory among themselves, and start may be the mark that is to be covered; those of the answer share none.
func TestBasesOfListsThatShare(t *testing.T) {
	memory := []int{0, 1}
	one := impl.Trans{In: memory[:1], Out: memory[1:], Reset: memory[:1]}
	n := impl.Net{Places: 2, Trans: []impl.Trans{one, one}}
	if l, ok := impl.StepBack(n, 1, memory); !ok || !slices.Equal(l, []int{1, 0}) {
		t.Error("StepBack", l, ok)
	} else {
		scribble(l)
	}
	l, ok := impl.BackBasis(n, memory, impl.MaxBasis)
	if !ok || !sameRows(l, [][]int{{0, 1}, {1, 0}}) {
		t.Error("BackBasis", l, ok)
	}
	scribbleRows(l)
	if is, ok := impl.CoversBack(n, memory, memory, impl.MaxBasis); !is || !ok {
		t.Error("CoversBack", is, ok)
	}
	if k, ok := impl.BackRounds(n, memory, impl.MaxBasis); k != 1 || !ok {
		t.Error("BackRounds", k, ok)
	}
	if !slices.Equal(memory, []int{0, 1}) {
		t.Error("an argument was changed", memory)
	}
}

// The same is answered each time.
func TestBasesAreToldInOneOrder(t *testing.T) {
	n, m := crossNet(6, 10), append([]int{1, 1}, filled(impl.MaxPlaces-2, 0)...)
	layers, _ := layersPlainly(n, m, impl.MaxBasis)
	for range 20 {
		if l, ok := impl.BackBasis(n, m, impl.MaxBasis); !ok || !sameRows(l, layers[len(layers)-1]) {
			t.Fatalf("BackBasis: %v %v", l, ok)
		}
	}
}

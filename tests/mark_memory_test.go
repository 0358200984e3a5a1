package tests

import (
	"slices"
	"testing"

	"loop.example/g00662/impl"
)

// Promise 22 at wrong marks: the zero answer, no panic, nothing written.
func TestWrongMarksOneByOne(t *testing.T) {
	for _, w := range wrongMarks() {
		m := guardedList(w.m)
		quietly(t, w.what, func() {
			if impl.GoodMark(w.places, m) {
				t.Errorf("GoodMark, %s: true", w.what)
			}
			if n, ok := impl.TotalOf(w.places, m); n != 0 || ok {
				t.Errorf("TotalOf, %s: %v %v", w.what, n, ok)
			}
			if s, ok := impl.MarkText(w.places, m); s != "" || ok {
				t.Errorf("MarkText, %s: %q %v", w.what, s, ok)
			}
		})
		untouched(t, w.what, m, w.m)
	}
}

func TestWrongMarksInPairs(t *testing.T) {
	for _, w := range wrongMarks() {
		beside := goodBeside(w)
		for _, pair := range [][2][]int{{w.m, w.m}, {w.m, beside}, {beside, w.m}} {
			a, b := guardedList(pair[0]), guardedList(pair[1])
			quietly(t, w.what, func() { wrongPair(t, w.what, w.places, a, b) })
			untouched(t, w.what, a, pair[0])
			untouched(t, w.what, b, pair[1])
		}
	}
}

func wrongPair(t *testing.T, what string, places int, a []int, b []int) {
	t.Helper()
	if m, ok := impl.AddMarks(places, a, b); len(m) != 0 || ok {
		t.Errorf("AddMarks, %s: %v %v", what, m, ok)
	}
	if m, ok := impl.TakeMarks(places, a, b); len(m) != 0 || ok {
		t.Errorf("TakeMarks, %s: %v %v", what, m, ok)
	}
	if is, ok := impl.Covers(places, a, b); is || ok {
		t.Errorf("Covers, %s: %v %v", what, is, ok)
	}
	if n, ok := impl.CompareMarks(places, a, b); n != 0 || ok {
		t.Errorf("CompareMarks, %s: %v %v", what, n, ok)
	}
}

func TestWrongMarksAmongMany(t *testing.T) {
	for _, w := range wrongMarks() {
		beside := goodBeside(w)
		for _, rows := range [][][]int{{w.m}, {w.m, beside}, {beside, w.m}, {beside, w.m, beside}} {
			l := guardedRows(rows)
			quietly(t, w.what, func() {
				if least, ok := impl.LeastMarks(w.places, l); len(least) != 0 || ok {
					t.Errorf("LeastMarks, %s: %v %v", w.what, least, ok)
				}
			})
			untouchedRows(t, w.what, l, rows)
		}
	}
	for _, places := range []int{0, -1, impl.MaxPlaces + 1} {
		if least, ok := impl.LeastMarks(places, nil); len(least) != 0 || ok {
			t.Errorf("LeastMarks of no marks of %d places: %v %v", places, least, ok)
		}
	}
}

// Promise 22 at good marks: nothing is written, and an answer is new memory.
func TestAnswersOfPairsAreNew(t *testing.T) {
	calls := []struct {
		what string
		call func(int, []int, []int) ([]int, bool)
	}{
		{"AddMarks", impl.AddMarks},
		{"TakeMarks", impl.TakeMarks},
	}
	pairs := [][2][]int{
		{{4, 5, 6}, {1, 2, 3}},
		{{4, 5, 6}, {0, 0, 0}},
		{{0, 0, 0}, {0, 0, 0}},
	}
	for _, c := range calls {
		for _, pair := range pairs {
			a, b := guardedList(pair[0]), guardedList(pair[1])
			m, ok := c.call(3, a, b)
			was := slices.Clone(m)
			if !ok {
				t.Errorf("%s %v: not told", c.what, pair)
			}
			untouched(t, c.what, a, pair[0])
			untouched(t, c.what, b, pair[1])
			scribble(m)
			untouched(t, c.what, a, pair[0])
			untouched(t, c.what, b, pair[1])
			if again, ok := c.call(3, a, b); !ok || !slices.Equal(again, was) {
				t.Errorf("%s %v: %v, and again %v %v", c.what, pair, was, again, ok)
			}
		}
	}
}

// One list as both arguments is neither written into nor handed out.
func TestOneListTwice(t *testing.T) {
	m := guardedList([]int{1, 2, 3})
	sum, okSum := impl.AddMarks(3, m, m)
	none, okNone := impl.TakeMarks(3, m, m)
	if !okSum || !okNone || !slices.Equal(sum, []int{2, 4, 6}) || !slices.Equal(none, []int{0, 0, 0}) {
		t.Errorf("%v %v %v %v", sum, okSum, none, okNone)
	}
	scribble(sum)
	scribble(none)
	untouched(t, "one list twice", m, []int{1, 2, 3})
}

func TestWhatIsToldOfMarksWritesNothing(t *testing.T) {
	a, b := guardedList([]int{4, 5, 6}), guardedList([]int{4, 6, 5})
	for range 2 {
		if !impl.GoodMark(3, a) || !impl.GoodMark(3, b) {
			t.Error("not told good")
		}
		if is, ok := impl.Covers(3, a, b); is || !ok {
			t.Error("Covers", is, ok)
		}
		if n, ok := impl.CompareMarks(3, a, b); n != -1 || !ok {
			t.Error("CompareMarks", n, ok)
		}
		if n, ok := impl.TotalOf(3, a); n != 15 || !ok {
			t.Error("TotalOf", n, ok)
		}
		if s, ok := impl.MarkText(3, b); s != "4 6 5" || !ok {
			t.Error("MarkText", s, ok)
		}
		untouched(t, "told", a, []int{4, 5, 6})
		untouched(t, "told", b, []int{4, 6, 5})
	}
}

func TestLeastMarksAreNew(t *testing.T) {
	rows := [][]int{{2, 0, 1}, {0, 1, 1}, {2, 2, 2}, {1, 0, 3}, {0, 1, 1}, {2, 0, 1}}
	want := [][]int{{0, 1, 1}, {1, 0, 3}, {2, 0, 1}}
	l := guardedRows(rows)
	least, ok := impl.LeastMarks(3, l)
	if !ok || !sameRows(least, want) {
		t.Fatalf("LeastMarks: %v %v", least, ok)
	}
	untouchedRows(t, "LeastMarks", l, rows)
	for i := range least {
		kept := cloneRows(least)
		scribble(least[i])
		for j := range least {
			if j != i && !slices.Equal(least[j], kept[j]) {
				t.Errorf("rows %d and %d of an answer share memory", i, j)
			}
		}
	}
	scribbleRows(least)
	untouchedRows(t, "LeastMarks", l, rows)
	if again, ok := impl.LeastMarks(3, l); !ok || !sameRows(again, want) {
		t.Errorf("LeastMarks again: %v %v", again, ok)
	}
}

// Rows of an argument may share memory among themselves; those of the answer do not.
func TestLeastMarksOfRowsThatShare(t *testing.T) {
	memory := []int{1, 2, 1, 2}
	l := [][]int{memory[0:2], memory[1:3], memory[2:4], memory[0:2]}
	least, ok := impl.LeastMarks(2, l)
	if !ok || !sameRows(least, [][]int{{1, 2}, {2, 1}}) {
		t.Fatalf("LeastMarks: %v %v", least, ok)
	}
	scribble(least[0])
	if !slices.Equal(least[1], []int{2, 1}) || !slices.Equal(memory, []int{1, 2, 1, 2}) {
		t.Errorf("shared memory: %v, %v", least, memory)
	}
}

func TestReadMarkIsNew(t *testing.T) {
	first, ok := impl.ReadMark(3, "1 0 50")
	scribble(first)
	second, okSecond := impl.ReadMark(3, "1 0 50")
	if !ok || !okSecond || !slices.Equal(second, []int{1, 0, 50}) {
		t.Errorf("ReadMark: %v, %v %v", ok, second, okSecond)
	}
}

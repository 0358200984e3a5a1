package tests

import (
	"slices"
	"testing"
)

// guard stands in the memory behind a list's length, where nothing may look.
const guard = 7

// guardedList has the numbers of m and, behind its length, memory that holds guards.
func guardedList(m []int) []int {
	l := append(slices.Clone(m), guard, guard, guard, guard)
	return l[:len(m):len(l)]
}

// guardedRows does so for a list of lists, with a good mark behind the length of the outer one too.
func guardedRows(l [][]int) [][]int {
	rows := make([][]int, 0, len(l)+1)
	for _, m := range l {
		rows = append(rows, guardedList(m))
	}
	behind := rows[:len(l)+1]
	behind[len(l)] = []int{0, 0, 0}
	return rows
}

// untouched fails where a list that guardedList made is no longer what it was, up to its capacity.
func untouched(t *testing.T, what string, l []int, was []int) {
	t.Helper()
	if !slices.Equal(l, was) {
		t.Errorf("%s: an argument was changed to %v, it was %v", what, l, was)
	}
	for _, n := range l[len(l):cap(l)] {
		if n != guard {
			t.Errorf("%s: memory behind an argument's length was changed", what)
		}
	}
}

// untouchedRows does so for a list that guardedRows made.
func untouchedRows(t *testing.T, what string, l [][]int, was [][]int) {
	t.Helper()
	if len(l) != len(was) {
		t.Fatalf("%s: an argument was changed to %v, it was %v", what, l, was)
	}
	for i := range l {
		untouched(t, what, l[i], was[i])
	}
	if behind := l[:len(l)+1][len(l)]; !slices.Equal(behind, []int{0, 0, 0}) {
		t.Errorf("%s: memory behind an argument's length was changed to %v", what, behind)
	}
}

// scribble writes over all the memory that an answer hands out.
func scribble(l []int) {
	l = l[:cap(l)]
	for i := range l {
		l[i] = -99
	}
}

// scribbleRows writes over all the rows, and then over the list of them.
func scribbleRows(l [][]int) {
	for _, row := range l[:cap(l)] {
		scribble(row)
	}
	clear(l[:cap(l)])
}

// rowsOwnMemory asks for as many lists as are wanted again and again, and writes over one of them each time, up to its capacity, and then over all: no other one is changed by it, and no argument, as untouched holds.
func rowsOwnMemory(t *testing.T, what string, want [][]int, ask func() ([][]int, bool), untouched func()) {
	t.Helper()
	for i := range want {
		l, ok := ask()
		if !ok || !sameRows(l, want) {
			t.Fatalf("%s: %v %v", what, l, ok)
		}
		kept := cloneRows(l)
		scribble(l[i])
		l[i], kept[i] = nil, nil
		if !sameRows(l, kept) {
			t.Errorf("%s: lists of an answer share memory: %v, it was %v", what, l, kept)
		}
		scribbleRows(l)
		untouched()
	}
}

// quietly calls f and fails where it panics.
func quietly(t *testing.T, what string, f func()) {
	t.Helper()
	defer func() {
		if r := recover(); r != nil {
			t.Errorf("%s: panic: %v", what, r)
		}
	}()
	f()
}

func sameRows(a, b [][]int) bool {
	return slices.EqualFunc(a, b, slices.Equal[[]int])
}

func cloneRows(l [][]int) [][]int {
	out := make([][]int, len(l))
	for i, m := range l {
		out[i] = slices.Clone(m)
	}
	return out
}

func filled(many int, n int) []int {
	m := make([]int, many)
	for i := range m {
		m[i] = n
	}
	return m
}

// dice gives numbers of all kinds, the same ones at each run: each is worked out from the one ahead.
type dice uint32

func (d *dice) below(n int) int {
	*d = *d*1664525 + 1013904223
	return int(*d>>16) % n
}

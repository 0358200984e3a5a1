package impl

import (
	"slices"
	"strconv"
)

const MaxPlaces = 16
const MaxTokens = 50
const MaxMarks = 400

// maxMarkText bounds what ReadMark looks at.
const maxMarkText = 100

// tokens is a mark of any number of places as one value, so that marks can be
// compared whole; places that the mark has not are empty in it.
type tokens [MaxPlaces]uint8

// The kinds of bytes in the text of a mark.
const (
	byteNought = iota
	byteDigit
	byteBlank
	byteOther
)

// How far a number in the text of a mark is read.
const (
	numberAhead = iota
	numberNought
	numberGoing
	numberWrong
)

// numberAfter has a row for each way a number may be read so far, and in it,
// for each kind of byte, how far it is read then. A nought ahead of digits, or
// a number without any, would give a mark a second text: both are wrong.
// Nothing follows on numberWrong, so it has no row.
var numberAfter = [...][byteOther + 1]int{
	numberAhead:  {numberNought, numberGoing, numberWrong, numberWrong},
	numberNought: {numberWrong, numberWrong, numberAhead, numberWrong},
	numberGoing:  {numberGoing, numberGoing, numberAhead, numberWrong},
}

func goodPlaces(places int) bool {
	return places >= 1 && places <= MaxPlaces
}

// tokensOf packs a good mark; it tells false of any other list.
func tokensOf(places int, m []int) (tokens, bool) {
	var t tokens
	if !goodPlaces(places) || len(m) != places {
		return tokens{}, false
	}
	for i, n := range m {
		if n < 0 || n > MaxTokens {
			return tokens{}, false
		}
		t[i] = uint8(n)
	}
	return t, true
}

// bothTokensOf packs two good marks of the same places.
func bothTokensOf(places int, a []int, b []int) (tokens, tokens, bool) {
	x, okA := tokensOf(places, a)
	y, okB := tokensOf(places, b)
	if !okA || !okB {
		return tokens{}, tokens{}, false
	}
	return x, y, true
}

func (t tokens) list(places int) []int {
	m := make([]int, places)
	for i := range m {
		m[i] = int(t[i])
	}
	return m
}

func listsOfTokens(places int, marks []tokens) [][]int {
	l := make([][]int, len(marks))
	for i, t := range marks {
		l[i] = t.list(places)
	}
	return l
}

func (t tokens) covers(u tokens) bool {
	for i := range t {
		if t[i] < u[i] {
			return false
		}
	}
	return true
}

func compareTokens(t tokens, u tokens) int {
	if t == u {
		return 0
	}
	for i := range t {
		if t[i] < u[i] {
			return -1
		}
		if t[i] > u[i] {
			break
		}
	}
	return 1
}

// leastTokens works however many marks there are; it reorders the list that
// it is given. What a mark covers, but itself, comes ahead of it in order, so
// it is enough to ask the ones that were kept so far.
func leastTokens(l []tokens) []tokens {
	slices.SortFunc(l, compareTokens)
	var least []tokens
	for _, t := range l {
		if !slices.ContainsFunc(least, t.covers) {
			least = append(least, t)
		}
	}
	return least
}

func GoodMark(places int, m []int) bool {
	_, ok := tokensOf(places, m)
	return ok
}

func AddMarks(places int, a []int, b []int) ([]int, bool) {
	x, y, ok := bothTokensOf(places, a, b)
	if !ok {
		return nil, false
	}
	for i := range x {
		x[i] += y[i]
		if x[i] > MaxTokens {
			return nil, false
		}
	}
	return x.list(places), true
}

func TakeMarks(places int, a []int, b []int) ([]int, bool) {
	x, y, ok := bothTokensOf(places, a, b)
	if !ok || !x.covers(y) {
		return nil, false
	}
	for i := range x {
		x[i] -= y[i]
	}
	return x.list(places), true
}

func Covers(places int, a []int, b []int) (bool, bool) {
	x, y, ok := bothTokensOf(places, a, b)
	if !ok {
		return false, false
	}
	return x.covers(y), true
}

func TotalOf(places int, m []int) (int, bool) {
	t, ok := tokensOf(places, m)
	if !ok {
		return 0, false
	}
	total := 0
	for _, n := range t {
		total += int(n)
	}
	return total, true
}

func CompareMarks(places int, a []int, b []int) (int, bool) {
	x, y, ok := bothTokensOf(places, a, b)
	if !ok {
		return 0, false
	}
	return compareTokens(x, y), true
}

func LeastMarks(places int, l [][]int) ([][]int, bool) {
	if !goodPlaces(places) || len(l) > MaxMarks {
		return nil, false
	}
	all := make([]tokens, len(l))
	for i, m := range l {
		t, ok := tokensOf(places, m)
		if !ok {
			return nil, false
		}
		all[i] = t
	}
	return listsOfTokens(places, leastTokens(all)), true
}

func MarkText(places int, m []int) (string, bool) {
	if !GoodMark(places, m) {
		return "", false
	}
	var text []byte
	for i, n := range m {
		if i > 0 {
			text = append(text, ' ')
		}
		text = strconv.AppendInt(text, int64(n), 10)
	}
	return string(text), true
}

func kindOfByte(b byte) int {
	switch {
	case b == '0':
		return byteNought
	case b >= '1' && b <= '9':
		return byteDigit
	case b == ' ':
		return byteBlank
	}
	return byteOther
}

func ReadMark(places int, s string) ([]int, bool) {
	if !goodPlaces(places) || len(s) > maxMarkText {
		return nil, false
	}
	m := make([]int, places)
	at, read := 0, numberAhead
	for i := range len(s) {
		read = numberAfter[read][kindOfByte(s[i])]
		switch read {
		case numberWrong:
			return nil, false
		case numberAhead:
			at++
			if at == places {
				return nil, false
			}
		default:
			m[at] = m[at]*10 + int(s[i]-'0')
			if m[at] > MaxTokens {
				return nil, false
			}
		}
	}
	if read == numberAhead || at != places-1 {
		return nil, false
	}
	return m, true
}

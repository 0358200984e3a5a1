package tests

import (
	"math"
	"slices"
	"strconv"
	"strings"
	"testing"

	"loop.example/g00662/impl"
)

// marksUpTo has all marks of some places with at most so many tokens on each, in order.
func marksUpTo(places int, most int) [][]int {
	l := [][]int{{}}
	for range places {
		var next [][]int
		for _, m := range l {
			for n := range most + 1 {
				next = append(next, append(slices.Clone(m), n))
			}
		}
		l = next
	}
	return l
}

// manyMarks has marks of all kinds, the same ones at each run.
func manyMarks(places int, many int, most int) [][]int {
	d := dice(places*1000 + many)
	l := make([][]int, many)
	for i := range l {
		l[i] = make([]int, places)
		for p := range l[i] {
			l[i][p] = d.below(most + 1)
		}
	}
	return l
}

func coversPlainly(a, b []int) bool {
	for i := range a {
		if a[i] < b[i] {
			return false
		}
	}
	return true
}

// leastPlainly is LeastMarks by its words: those that cover no unlike one, in order, each once.
func leastPlainly(l [][]int) [][]int {
	var out [][]int
	for _, m := range l {
		unlike := func(o []int) bool { return !slices.Equal(m, o) && coversPlainly(m, o) }
		if !slices.ContainsFunc(l, unlike) {
			out = append(out, slices.Clone(m))
		}
	}
	slices.SortFunc(out, slices.Compare[[]int])
	return slices.CompactFunc(out, slices.Equal[[]int])
}

// wrongMark is a list that is no mark of so many places.
type wrongMark struct {
	what   string
	places int
	m      []int
}

func wrongMarks() []wrongMark {
	return []wrongMark{
		{"places 0, empty", 0, nil},
		{"places 0, one number", 0, []int{0}},
		{"places below 0", -1, nil},
		{"places below 0, one number", -1, []int{0}},
		{"least places", math.MinInt, []int{1}},
		{"greatest places", math.MaxInt, []int{1}},
		{"one place more than MaxPlaces", impl.MaxPlaces + 1, filled(impl.MaxPlaces+1, 1)},
		{"more places than the list", impl.MaxPlaces + 1, filled(impl.MaxPlaces, 1)},
		{"nil list", 3, nil},
		{"empty list", 1, []int{}},
		{"too short", 3, []int{1, 2}},
		{"too long", 3, []int{1, 2, 0, 0}},
		{"too short by one of MaxPlaces", impl.MaxPlaces, filled(impl.MaxPlaces-1, 1)},
		{"too long by one of MaxPlaces", impl.MaxPlaces, filled(impl.MaxPlaces+1, 1)},
		{"below 0 at the front", 3, []int{-1, 0, 0}},
		{"below 0 at the end", 3, []int{0, 0, -1}},
		{"above MaxTokens at the front", 3, []int{impl.MaxTokens + 1, 0, 0}},
		{"above MaxTokens at the end", 3, []int{0, 0, impl.MaxTokens + 1}},
		{"least number", 1, []int{math.MinInt}},
		{"greatest number", 1, []int{math.MaxInt}},
		{"a number of which 8 bits are a good one", 1, []int{256}},
		{"a number below 0 of which 8 bits are a good one", 1, []int{-256 + 3}},
		{"a number of which 32 bits are a good one", 2, []int{1, 1<<32 + 1}},
	}
}

// goodBeside is a good mark of as many places as a wrong one's, where there is one.
func goodBeside(w wrongMark) []int {
	if w.places < 1 || w.places > impl.MaxPlaces {
		return slices.Clone(w.m)
	}
	return filled(w.places, 1)
}

func TestGoodMark(t *testing.T) {
	good := []struct {
		places int
		m      []int
	}{
		{1, []int{0}},
		{1, []int{impl.MaxTokens}},
		{3, []int{1, 0, 2}},
		{impl.MaxPlaces, filled(impl.MaxPlaces, 0)},
		{impl.MaxPlaces, filled(impl.MaxPlaces, impl.MaxTokens)},
	}
	for _, g := range good {
		if !impl.GoodMark(g.places, g.m) {
			t.Errorf("%d places, %v: not told good", g.places, g.m)
		}
	}
	for _, w := range wrongMarks() {
		if impl.GoodMark(w.places, w.m) {
			t.Errorf("%s: told good", w.what)
		}
	}
}

func TestMarkLimits(t *testing.T) {
	if impl.MaxPlaces != 16 || impl.MaxTokens != 50 || impl.MaxMarks != 400 {
		t.Error("a limit is not the document's")
	}
}

func TestAddMarks(t *testing.T) {
	full := impl.MaxTokens
	cases := []struct {
		places     int
		a, b, want []int
		ok         bool
	}{
		{3, []int{1, 0, 2}, []int{0, 1, 1}, []int{1, 1, 3}, true},
		{1, []int{0}, []int{0}, []int{0}, true},
		{1, []int{full}, []int{0}, []int{full}, true},
		{1, []int{0}, []int{full}, []int{full}, true},
		{2, []int{20, 25}, []int{30, 25}, []int{full, full}, true},
		{2, []int{20, 25}, []int{30, 26}, nil, false},
		{2, []int{21, 25}, []int{30, 25}, nil, false},
		{1, []int{full}, []int{1}, nil, false},
		{1, []int{full}, []int{full}, nil, false},
		{impl.MaxPlaces, filled(impl.MaxPlaces, 25), filled(impl.MaxPlaces, 25), filled(impl.MaxPlaces, full), true},
		{impl.MaxPlaces, filled(impl.MaxPlaces, 25), filled(impl.MaxPlaces, 26), nil, false},
	}
	for _, c := range cases {
		if m, ok := impl.AddMarks(c.places, c.a, c.b); ok != c.ok || !slices.Equal(m, c.want) {
			t.Errorf("AddMarks %v %v: %v %v", c.a, c.b, m, ok)
		}
	}
}

func TestTakeMarks(t *testing.T) {
	full := impl.MaxTokens
	cases := []struct {
		places     int
		a, b, want []int
		ok         bool
	}{
		{3, []int{1, 1, 3}, []int{0, 1, 1}, []int{1, 0, 2}, true},
		{3, []int{1, 1, 3}, []int{1, 1, 3}, []int{0, 0, 0}, true},
		{3, []int{1, 1, 3}, []int{2, 0, 0}, nil, false},
		{3, []int{1, 1, 3}, []int{0, 0, 4}, nil, false},
		{1, []int{full}, []int{full}, []int{0}, true},
		{1, []int{0}, []int{0}, []int{0}, true},
		{1, []int{0}, []int{1}, nil, false},
		{impl.MaxPlaces, filled(impl.MaxPlaces, full), filled(impl.MaxPlaces, 1), filled(impl.MaxPlaces, full-1), true},
	}
	for _, c := range cases {
		if m, ok := impl.TakeMarks(c.places, c.a, c.b); ok != c.ok || !slices.Equal(m, c.want) {
			t.Errorf("TakeMarks %v %v: %v %v", c.a, c.b, m, ok)
		}
	}
}

func TestTotalOf(t *testing.T) {
	cases := []struct {
		places int
		m      []int
		want   int
	}{
		{3, []int{1, 0, 2}, 3},
		{1, []int{0}, 0},
		{1, []int{impl.MaxTokens}, impl.MaxTokens},
		{impl.MaxPlaces, filled(impl.MaxPlaces, impl.MaxTokens), impl.MaxPlaces * impl.MaxTokens},
		{impl.MaxPlaces, append(filled(impl.MaxPlaces-1, 0), 4), 4},
	}
	for _, c := range cases {
		if n, ok := impl.TotalOf(c.places, c.m); n != c.want || !ok {
			t.Errorf("TotalOf %v: %v %v", c.m, n, ok)
		}
	}
}

func TestCoversAndCompare(t *testing.T) {
	cases := []struct {
		places  int
		a, b    []int
		covers  bool
		compare int
	}{
		{2, []int{1, 0}, []int{1, 0}, true, 0},
		{2, []int{1, 0}, []int{1, 1}, false, -1},
		{2, []int{1, 1}, []int{1, 0}, true, 1},
		{2, []int{0, 9}, []int{1, 0}, false, -1},
		{2, []int{1, 0}, []int{0, 9}, false, 1},
		{3, []int{2, 1, 9}, []int{2, 3, 0}, false, -1},
		{3, []int{2, 3, 0}, []int{2, 1, 9}, false, 1},
		{1, []int{9}, []int{10}, false, -1},
		{1, []int{impl.MaxTokens}, []int{0}, true, 1},
		{impl.MaxPlaces, append(filled(impl.MaxPlaces-1, 3), 1), append(filled(impl.MaxPlaces-1, 3), 2), false, -1},
	}
	for _, c := range cases {
		if is, ok := impl.Covers(c.places, c.a, c.b); is != c.covers || !ok {
			t.Errorf("Covers %v %v: %v %v", c.a, c.b, is, ok)
		}
		if n, ok := impl.CompareMarks(c.places, c.a, c.b); n != c.compare || !ok {
			t.Errorf("CompareMarks %v %v: %v %v", c.a, c.b, n, ok)
		}
	}
}

func TestAMarkCoversItself(t *testing.T) {
	for places := 1; places <= impl.MaxPlaces; places++ {
		l := append(manyMarks(places, 20, impl.MaxTokens), filled(places, 0), filled(places, impl.MaxTokens))
		for _, m := range l {
			is, ok := impl.Covers(places, m, m)
			n, okN := impl.CompareMarks(places, m, m)
			none, okTake := impl.TakeMarks(places, m, m)
			if !is || !ok || n != 0 || !okN || !okTake || !slices.Equal(none, filled(places, 0)) {
				t.Errorf("%v against itself: covers %v %v, compared %v %v, taken %v %v", m, is, ok, n, okN, none, okTake)
			}
			if least, ok := impl.LeastMarks(places, [][]int{m, m}); !ok || !sameRows(least, [][]int{m}) {
				t.Errorf("LeastMarks of %v twice: %v %v", m, least, ok)
			}
		}
	}
}

// Promise 1, its first half.
func TestWhatIsAddedIsTakenAway(t *testing.T) {
	for places := 1; places <= impl.MaxPlaces; places++ {
		l := append(manyMarks(places, 30, impl.MaxTokens/2), manyMarks(places, 10, impl.MaxTokens)...)
		l = append(l, filled(places, 0), filled(places, impl.MaxTokens))
		told := 0
		for _, a := range l {
			for _, b := range l {
				if addAndTake(t, places, a, b) {
					told++
				}
			}
		}
		if told < 900 {
			t.Errorf("%d places: only %d sums were told", places, told)
		}
	}
}

// addAndTake tells whether AddMarks told a sum, and fails where TakeMarks does not undo it.
func addAndTake(t *testing.T, places int, a []int, b []int) bool {
	t.Helper()
	sum, ok := impl.AddMarks(places, a, b)
	fits := true
	for i := range a {
		fits = fits && a[i]+b[i] <= impl.MaxTokens
	}
	if ok != fits {
		t.Errorf("AddMarks %v %v: %v %v", a, b, sum, ok)
	}
	if !ok {
		return false
	}
	noA, okA := impl.TakeMarks(places, sum, a)
	noB, okB := impl.TakeMarks(places, sum, b)
	if !okA || !okB || !slices.Equal(noA, b) || !slices.Equal(noB, a) {
		t.Errorf("%v and %v make %v; taken away: %v %v, %v %v", a, b, sum, noA, okA, noB, okB)
	}
	is, okC := impl.Covers(places, sum, a)
	totalA, _ := impl.TotalOf(places, a)
	totalB, _ := impl.TotalOf(places, b)
	total, okT := impl.TotalOf(places, sum)
	if !impl.GoodMark(places, sum) || !is || !okC || !okT || total != totalA+totalB {
		t.Errorf("%v and %v make %v: covers %v, total %d", a, b, sum, is, total)
	}
	return true
}

// All pairs of small marks: what is told of a pair is what the words say of it.
func TestPairsOfMarks(t *testing.T) {
	for places := 1; places <= 3; places++ {
		l := marksUpTo(places, 3)
		for i, a := range l {
			for j, b := range l {
				want := 0
				if i < j {
					want = -1
				} else if i > j {
					want = 1
				}
				if n, ok := impl.CompareMarks(places, a, b); n != want || !ok {
					t.Errorf("CompareMarks %v %v: %v %v", a, b, n, ok)
				}
				covers := coversPlainly(a, b)
				if is, ok := impl.Covers(places, a, b); is != covers || !ok {
					t.Errorf("Covers %v %v: %v %v", a, b, is, ok)
				}
				if m, ok := impl.TakeMarks(places, a, b); ok != covers || !ok && len(m) != 0 {
					t.Errorf("TakeMarks %v %v: %v %v", a, b, m, ok)
				}
			}
		}
	}
}

func TestLeastMarks(t *testing.T) {
	cases := []struct {
		places  int
		l, want [][]int
	}{
		{2, nil, nil},
		{2, [][]int{}, nil},
		{1, [][]int{{4}}, [][]int{{4}}},
		{1, [][]int{{4}, {2}, {3}, {2}}, [][]int{{2}}},
		{2, [][]int{{2, 0}, {1, 0}, {0, 1}}, [][]int{{0, 1}, {1, 0}}},
		{2, [][]int{{1, 2}, {2, 1}, {1, 2}, {2, 1}}, [][]int{{1, 2}, {2, 1}}},
		{2, [][]int{{0, 0}, {5, 5}, {0, 0}, {0, 1}}, [][]int{{0, 0}}},
		{2, [][]int{{0, 9}, {1, 9}, {1, 0}}, [][]int{{0, 9}, {1, 0}}},
		{2, [][]int{{10, 0}, {9, 1}}, [][]int{{9, 1}, {10, 0}}},
		{impl.MaxPlaces, [][]int{filled(impl.MaxPlaces, impl.MaxTokens), filled(impl.MaxPlaces, 0)}, [][]int{filled(impl.MaxPlaces, 0)}},
	}
	for _, c := range cases {
		if l, ok := impl.LeastMarks(c.places, c.l); !ok || !sameRows(l, c.want) {
			t.Errorf("LeastMarks %v: %v %v", c.l, l, ok)
		}
	}
}

// unlikeMarks has so many marks of three places none of which covers another one.
func unlikeMarks(many int) [][]int {
	var l [][]int
	for a := 0; a <= impl.MaxTokens; a++ {
		for b := 0; a+b <= impl.MaxTokens && len(l) < many; b++ {
			l = append(l, []int{a, b, impl.MaxTokens - a - b})
		}
	}
	return l
}

func TestLeastMarksAtItsLimit(t *testing.T) {
	l := unlikeMarks(impl.MaxMarks)
	want := cloneRows(l)
	slices.Reverse(l)
	if got, ok := impl.LeastMarks(3, l); !ok || !sameRows(got, want) {
		t.Errorf("MaxMarks marks: %d of them told, %v", len(got), ok)
	}
	if got, ok := impl.LeastMarks(3, unlikeMarks(impl.MaxMarks+1)); ok || len(got) != 0 {
		t.Errorf("one mark more than MaxMarks: %d of them told, %v", len(got), ok)
	}
	same := slices.Repeat([][]int{{1, 2}}, impl.MaxMarks)
	if got, ok := impl.LeastMarks(2, same); !ok || !sameRows(got, [][]int{{1, 2}}) {
		t.Errorf("one mark MaxMarks times: %v %v", got, ok)
	}
	if got, ok := impl.LeastMarks(2, append(same, []int{1, 2})); ok || len(got) != 0 {
		t.Errorf("one mark more often than MaxMarks: %v %v", got, ok)
	}
}

// Promise 1, its second half.
func TestEachMarkCoversALeastOne(t *testing.T) {
	for places := 1; places <= impl.MaxPlaces; places++ {
		for _, most := range []int{1, 3, impl.MaxTokens} {
			for _, many := range []int{1, 2, 15, 120} {
				l := manyMarks(places, many, most)
				checkLeast(t, places, append(l, l[0], l[many/2]))
			}
		}
	}
	checkLeast(t, 3, marksUpTo(3, 3)[1:])
}

func checkLeast(t *testing.T, places int, l [][]int) {
	t.Helper()
	least, ok := impl.LeastMarks(places, l)
	if want := leastPlainly(l); !ok || !sameRows(least, want) {
		t.Fatalf("LeastMarks %v: %v %v, not %v", l, least, ok, want)
	}
	for _, m := range l {
		some := slices.ContainsFunc(least, func(o []int) bool {
			is, ok := impl.Covers(places, m, o)
			return is && ok
		})
		if !some {
			t.Errorf("%v covers none of %v", m, least)
		}
	}
	for i := 1; i < len(least); i++ {
		if n, ok := impl.CompareMarks(places, least[i-1], least[i]); n != -1 || !ok {
			t.Errorf("%v and %v are not in order", least[i-1], least[i])
		}
	}
}

func TestMarkText(t *testing.T) {
	cases := []struct {
		places int
		m      []int
		want   string
	}{
		{1, []int{0}, "0"},
		{1, []int{impl.MaxTokens}, "50"},
		{3, []int{1, 0, 2}, "1 0 2"},
		{4, []int{10, 9, 0, 20}, "10 9 0 20"},
		{impl.MaxPlaces, filled(impl.MaxPlaces, 0), strings.Repeat("0 ", impl.MaxPlaces-1) + "0"},
		{impl.MaxPlaces, filled(impl.MaxPlaces, impl.MaxTokens), strings.Repeat("50 ", impl.MaxPlaces-1) + "50"},
	}
	for _, c := range cases {
		if s, ok := impl.MarkText(c.places, c.m); s != c.want || !ok {
			t.Errorf("MarkText %v: %q %v", c.m, s, ok)
		}
		if m, ok := impl.ReadMark(c.places, c.want); !ok || !slices.Equal(m, c.m) {
			t.Errorf("ReadMark %q: %v %v", c.want, m, ok)
		}
	}
}

func TestMarksAreReadBack(t *testing.T) {
	for places := 1; places <= impl.MaxPlaces; places++ {
		for _, m := range append(manyMarks(places, 60, impl.MaxTokens), manyMarks(places, 20, 2)...) {
			s, ok := impl.MarkText(places, m)
			back, okBack := impl.ReadMark(places, s)
			if !ok || !okBack || !slices.Equal(back, m) {
				t.Errorf("%v: %q %v, read back %v %v", m, s, ok, back, okBack)
			}
			if other, ok := impl.ReadMark(places%impl.MaxPlaces+1, s); ok || len(other) != 0 {
				t.Errorf("%q with another number of places: %v %v", s, other, ok)
			}
		}
	}
	for n := 0; n <= impl.MaxTokens; n++ {
		if m, ok := impl.ReadMark(1, strconv.Itoa(n)); !ok || !slices.Equal(m, []int{n}) {
			t.Errorf("ReadMark of %d: %v %v", n, m, ok)
		}
	}
}

// readPlainly tells by the library whether a text is that of a mark, and which.
func readPlainly(places int, s string) ([]int, bool) {
	var m []int
	for _, word := range strings.Split(s, " ") {
		n, err := strconv.Atoi(word)
		if err != nil || strconv.Itoa(n) != word || n < 0 || n > impl.MaxTokens {
			return nil, false
		}
		m = append(m, n)
	}
	return m, len(m) == places
}

// All short texts of some bytes that stand, or might seem to stand, in the text of a mark.
func TestAllShortTexts(t *testing.T) {
	texts := []string{""}
	for from, length := 0, 0; length < 6; length++ {
		to := len(texts)
		for ; from < to; from++ {
			for _, b := range []byte("0159 -") {
				texts = append(texts, texts[from]+string(b))
			}
		}
	}
	for _, s := range texts {
		for places := 1; places <= 3; places++ {
			want, is := readPlainly(places, s)
			if !is {
				want = nil
			}
			if m, ok := impl.ReadMark(places, s); ok != is || !slices.Equal(m, want) {
				t.Fatalf("ReadMark %d %q: %v %v", places, s, m, ok)
			}
		}
	}
}

func TestWrongTexts(t *testing.T) {
	for _, s := range []string{
		"", " ", "1", "1 ", " 1", "1 2 3", "1 2 ", " 1 2", "1  2", "1\t2", "1\n2", "1,2", "1 2\n", "1 2\x00", "\x001 2",
		"01 2", "1 02", "00 1", "1 00", "+1 2", "1 +2", "-1 2", "1 -0", "1 51", "51 1", "1 100", "1 99", "1 500",
		"1 18446744073709551617", "1 4294967297", "1 257", "0x1 2", "1 2e0", "1 2.0", "1_0 2", "one two", "1 \u0662", "\uff11 2",
		"1/2", "1:2", "1 /", "1 :", "1 \xff", "\xff\xfe",
	} {
		if m, ok := impl.ReadMark(2, s); ok || len(m) != 0 {
			t.Errorf("ReadMark %q: %v %v", s, m, ok)
		}
	}
	for _, places := range []int{0, -1, impl.MaxPlaces + 1, math.MinInt, math.MaxInt} {
		for _, s := range []string{"", "1", "0 0", strings.Repeat("1 ", impl.MaxPlaces) + "1"} {
			if m, ok := impl.ReadMark(places, s); ok || len(m) != 0 {
				t.Errorf("ReadMark of %d places, %q: %v %v", places, s, m, ok)
			}
		}
	}
}

// No mark has a text of 100 bytes: that long, and longer, nothing is read, whatever its bytes are.
func TestLongTexts(t *testing.T) {
	longest := strings.Repeat("50 ", impl.MaxPlaces-1) + "50"
	for _, length := range []int{len(longest) + 1, 99, 100, 101, 1000, 100000} {
		for _, s := range []string{
			strings.Repeat("0", length),
			strings.Repeat("1", length),
			strings.Repeat(" ", length),
			strings.Repeat("1 ", length)[:length],
			strings.Repeat("0", length-1) + "1",
			(longest + strings.Repeat(" ", length))[:length],
			(longest + strings.Repeat("\x00", length))[:length],
			strings.Repeat(" ", length-1) + "1",
		} {
			for _, places := range []int{1, length/2 + length%2, impl.MaxPlaces} {
				if m, ok := impl.ReadMark(places, s); ok || len(m) != 0 {
					t.Errorf("ReadMark of %d places and %d bytes, %.20q..: %v %v", places, length, s, m, ok)
				}
			}
		}
	}
}

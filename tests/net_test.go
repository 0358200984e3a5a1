package tests

import (
	"math"
	"slices"
	"testing"

	"loop.example/g00662/impl"
)

func TestNetLimits(t *testing.T) {
	if impl.MaxTrans != 24 || impl.MaxSeq != 60 {
		t.Error("a limit is not the document's")
	}
}

func TestGoodNet(t *testing.T) {
	all := make([]int, impl.MaxPlaces)
	for p := range all {
		all[p] = p
	}
	good := []impl.Net{
		{Places: 1},
		{Places: impl.MaxPlaces},
		{Places: 1, Trans: []impl.Trans{}},
		{Places: 1, Trans: []impl.Trans{{In: []int{0}}}},
		{Places: 1, Trans: []impl.Trans{{In: []int{0}, Out: []int{}, Reset: []int{}}}},
		{Places: 1, Trans: []impl.Trans{{In: []int{0}, Out: []int{0}, Reset: []int{0}}}},
		{Places: 3, Trans: []impl.Trans{{In: []int{0, 2}, Out: []int{1}, Reset: []int{0, 1, 2}}, {In: []int{2}}}},
		{Places: 3, Trans: slices.Repeat([]impl.Trans{{In: []int{2}}}, impl.MaxTrans)},
		{Places: impl.MaxPlaces, Trans: []impl.Trans{{In: all, Out: all, Reset: all}}},
		{Places: impl.MaxPlaces, Trans: []impl.Trans{{In: all[impl.MaxPlaces-1:]}}},
	}
	for _, n := range good {
		if !impl.GoodNet(n) {
			t.Errorf("%v: not told good", n)
		}
	}
	for _, w := range wrongNets() {
		if impl.GoodNet(w.n) {
			t.Errorf("%s, %v: told good", w.what, w.n)
		}
	}
}

// All lists of up to three numbers about those of the places, as each of the three lists.
func TestGoodNetAtAllShortLists(t *testing.T) {
	lists := [][]int{{}}
	for from, length := 0, 0; length < 3; length++ {
		to := len(lists)
		for ; from < to; from++ {
			for p := -1; p <= 3; p++ {
				lists = append(lists, append(slices.Clone(lists[from]), p))
			}
		}
	}
	good := listsOf(3)
	for _, l := range lists {
		rises := slices.ContainsFunc(good, func(g []int) bool { return slices.Equal(g, l) })
		for _, c := range []struct {
			t    impl.Trans
			want bool
		}{
			{impl.Trans{In: l}, rises && len(l) > 0},
			{impl.Trans{In: []int{1}, Out: l}, rises},
			{impl.Trans{In: []int{1}, Reset: l}, rises},
		} {
			if is := impl.GoodNet(impl.Net{Places: 3, Trans: []impl.Trans{c.t}}); is != c.want {
				t.Errorf("a net of three places with %v: good %v", c.t, is)
			}
		}
	}
}

func TestEnabled(t *testing.T) {
	n := impl.Net{Places: 3, Trans: []impl.Trans{
		{In: []int{0}, Out: []int{1}},
		{In: []int{0, 1}},
		{In: []int{2}, Reset: []int{2}},
		{In: []int{0}, Out: []int{0}},
	}}
	cases := []struct{ m, want []int }{
		{[]int{0, 0, 0}, nil},
		{[]int{1, 0, 0}, []int{0, 3}},
		{[]int{0, 1, 0}, nil},
		{[]int{2, 1, 0}, []int{0, 1, 3}},
		{[]int{0, 0, 50}, []int{2}},
		{[]int{1, 1, 1}, []int{0, 1, 2, 3}},
		{[]int{50, 50, 50}, []int{0, 1, 2, 3}},
	}
	for _, c := range cases {
		if l, ok := impl.Enabled(n, c.m); !ok || !slices.Equal(l, c.want) {
			t.Errorf("Enabled in %v: %v %v", c.m, l, ok)
		}
	}
	if l, ok := impl.Enabled(impl.Net{Places: 2}, []int{1, 1}); !ok || len(l) != 0 {
		t.Errorf("Enabled without a transition: %v %v", l, ok)
	}
}

// What takes, empties and gives at the same place, and at the limit of tokens.
func TestFire(t *testing.T) {
	full := impl.MaxTokens
	at := []int{0}
	cases := []struct {
		what    string
		t       impl.Trans
		m, want []int
		ok      bool
	}{
		{"taken", impl.Trans{In: at}, []int{3, 0}, []int{2, 0}, true},
		{"the last is taken", impl.Trans{In: at}, []int{1, 5}, []int{0, 5}, true},
		{"none is there", impl.Trans{In: at}, []int{0, 5}, nil, false},
		{"one of two is not there", impl.Trans{In: []int{0, 1}}, []int{5, 0}, nil, false},
		{"moved", impl.Trans{In: at, Out: []int{1}}, []int{2, 0}, []int{1, 1}, true},
		{"taken and given", impl.Trans{In: at, Out: at}, []int{1, 0}, []int{1, 0}, true},
		{"taken and given, none is there", impl.Trans{In: at, Out: at}, []int{0, 0}, nil, false},
		{"taken and given at the limit", impl.Trans{In: at, Out: at}, []int{full, 0}, []int{full, 0}, true},
		{"emptied", impl.Trans{In: at, Reset: []int{1}}, []int{1, full}, []int{0, 0}, true},
		{"an empty one is emptied", impl.Trans{In: at, Reset: []int{1}}, []int{1, 0}, []int{0, 0}, true},
		{"emptied, and not enabled", impl.Trans{In: at, Reset: []int{1}}, []int{0, 4}, nil, false},
		{"emptied and given", impl.Trans{In: at, Reset: []int{1}, Out: []int{1}}, []int{1, 7}, []int{0, 1}, true},
		{"emptied and given at the limit", impl.Trans{In: at, Reset: []int{1}, Out: []int{1}}, []int{1, full}, []int{0, 1}, true},
		{"taken and emptied", impl.Trans{In: at, Reset: at}, []int{7, 2}, []int{0, 2}, true},
		{"taken and emptied, none is there", impl.Trans{In: at, Reset: at}, []int{0, 2}, nil, false},
		{"taken, emptied and given", impl.Trans{In: at, Reset: at, Out: at}, []int{7, 2}, []int{1, 2}, true},
		{"taken, emptied and given, one is there", impl.Trans{In: at, Reset: at, Out: at}, []int{1, 2}, []int{1, 2}, true},
		{"taken, emptied and given, none is there", impl.Trans{In: at, Reset: at, Out: at}, []int{0, 2}, nil, false},
		{"taken, emptied and given at the limit", impl.Trans{In: at, Reset: at, Out: at}, []int{full, 2}, []int{1, 2}, true},
		{"given up to the limit", impl.Trans{In: at, Out: []int{1}}, []int{1, full - 1}, []int{0, full}, true},
		{"given beyond the limit", impl.Trans{In: at, Out: []int{1}}, []int{1, full}, nil, false},
		{"another one is given beyond the limit", impl.Trans{In: []int{1}, Out: []int{0, 1}}, []int{full, 1}, nil, false},
	}
	for _, c := range cases {
		n := impl.Net{Places: 2, Trans: []impl.Trans{{In: []int{0, 1}, Out: []int{0, 1}}, c.t}}
		if m, ok := impl.Fire(n, c.m, 1); ok != c.ok || !slices.Equal(m, c.want) {
			t.Errorf("%s, in %v: %v %v", c.what, c.m, m, ok)
		}
		want, many := c.want, 1
		if !c.ok {
			want, many = c.m, 0
		}
		if m, n, ok := impl.FireAll(n, c.m, []int{1}); !ok || n != many || !slices.Equal(m, want) {
			t.Errorf("%s, in %v, one by one: %v %v %v", c.what, c.m, m, n, ok)
		}
	}
}

// All transitions of up to three places, at all marks of few tokens and of nearly too many.
func TestAllSmallTransitions(t *testing.T) {
	numbers := []int{0, 1, 2, impl.MaxTokens - 1, impl.MaxTokens}
	for places := 1; places <= 3; places++ {
		most := []int{4, 4, 2}[places-1]
		marks := marksUpTo(places, most)
		for _, m := range marks {
			for p := range m {
				m[p] = numbers[len(numbers)-1-m[p]]
			}
		}
		marks = append(marks, marksUpTo(places, 2)...)
		for _, tr := range transOf(places) {
			n := impl.Net{Places: places, Trans: []impl.Trans{tr}}
			for _, m := range marks {
				checkFire(t, n, m, 0)
			}
		}
	}
}

// checkFire holds what Fire and Enabled tell against their words.
func checkFire(t *testing.T, n impl.Net, m []int, number int) {
	t.Helper()
	want, is := firePlainly(n.Trans[number], m)
	if behind, ok := impl.Fire(n, m, number); ok != is || !slices.Equal(behind, want) {
		t.Fatalf("Fire %d of %v in %v: %v %v, not %v %v", number, n, m, behind, ok, want, is)
	}
	l, ok := impl.Enabled(n, m)
	if !ok || slices.Contains(l, number) != enabledPlainly(n.Trans[number], m) {
		t.Fatalf("Enabled of %v in %v: %v %v", n, m, l, ok)
	}
}

// Promise 2, its first half, over nets of all sizes: Fire tells true of no transition that Enabled does not name.
func TestOnlyWhatIsEnabledFires(t *testing.T) {
	d := dice(2)
	fired, kept := 0, 0
	for places := 1; places <= impl.MaxPlaces; places++ {
		for _, trans := range []int{0, 1, 2, 7, impl.MaxTrans} {
			for _, most := range []int{1, 2, impl.MaxTokens} {
				n := someNet(&d, places, trans, true)
				m := someMark(&d, places, most)
				l, ok := impl.Enabled(n, m)
				if !ok || !slices.IsSorted(l) || len(slices.Compact(slices.Clone(l))) != len(l) {
					t.Fatalf("Enabled of %v in %v: %v %v", n, m, l, ok)
				}
				for i := range n.Trans {
					checkFire(t, n, m, i)
					if _, ok := impl.Fire(n, m, i); ok {
						fired++
					} else {
						kept++
					}
				}
			}
		}
	}
	if fired < 300 || kept < 300 {
		t.Errorf("only %d fired, %d did not", fired, kept)
	}
}

// Promise 2, its second half: with more tokens the same fires, to as many more.
func TestMoreTokensFireToAsManyMore(t *testing.T) {
	d := dice(3)
	steps := 0
	for places := 1; places <= impl.MaxPlaces; places++ {
		for range 60 {
			n := someNet(&d, places, 1+d.below(impl.MaxTrans), false)
			m := someMark(&d, places, 4)
			seq, behind := someRun(t, &d, n, m)
			more := someMark(&d, places, 2)
			steps += len(seq)
			for i := range n.Trans {
				checkMore(t, n, m, more, []int{i})
			}
			checkMore(t, n, m, more, seq)
			if got, many, ok := impl.FireAll(n, m, seq); !ok || many != len(seq) || !slices.Equal(got, behind) {
				t.Fatalf("FireAll %v of %v in %v: %v %v %v", seq, n, m, got, many, ok)
			}
		}
	}
	if steps < 3000 {
		t.Errorf("only %d steps", steps)
	}
}

// someRun fires what is enabled for some steps: the numbers that fired, and the mark behind them.
func someRun(t *testing.T, d *dice, n impl.Net, m []int) ([]int, []int) {
	t.Helper()
	var seq []int
	for range 12 {
		l, ok := impl.Enabled(n, m)
		if !ok {
			t.Fatalf("Enabled of %v in %v: not told", n, m)
		}
		if len(l) == 0 {
			break
		}
		next := l[d.below(len(l))]
		behind, ok := impl.Fire(n, m, next)
		if !ok {
			t.Fatalf("Fire %d of %v in %v: not told", next, n, m)
		}
		seq, m = append(seq, next), behind
	}
	return seq, m
}

func checkMore(t *testing.T, n impl.Net, m []int, more []int, seq []int) {
	t.Helper()
	greater, okGreater := impl.AddMarks(n.Places, m, more)
	first, many, ok := impl.FireAll(n, m, seq)
	if !ok || !okGreater {
		t.Fatalf("FireAll %v of %v in %v: not told", seq, n, m)
	}
	want, _ := impl.AddMarks(n.Places, first, more)
	if got, as, ok := impl.FireAll(n, greater, seq[:many]); !ok || as != many || !slices.Equal(got, want) {
		t.Fatalf("FireAll %v of %v in %v: %v, with %v more: %v, %d fired of %d, %v", seq, n, m, first, more, got, as, many, ok)
	}
}

func TestFireAll(t *testing.T) {
	n := impl.Net{Places: 3, Trans: []impl.Trans{
		{In: []int{0}, Out: []int{1}},
		{In: []int{1}, Out: []int{2}, Reset: []int{0}},
		{In: []int{2}, Out: []int{2}},
	}}
	cases := []struct {
		m, seq, want []int
		many         int
	}{
		{[]int{2, 0, 0}, nil, []int{2, 0, 0}, 0},
		{[]int{2, 0, 0}, []int{}, []int{2, 0, 0}, 0},
		{[]int{2, 0, 0}, []int{0, 1}, []int{0, 0, 1}, 2},
		{[]int{2, 0, 0}, []int{0, 0, 1}, []int{0, 1, 1}, 3},
		{[]int{2, 0, 0}, []int{1, 0, 0}, []int{2, 0, 0}, 0},
		{[]int{2, 0, 0}, []int{0, 2, 0}, []int{1, 1, 0}, 1},
		{[]int{2, 0, 0}, []int{0, 1, 1, 2}, []int{0, 0, 1}, 2},
		{[]int{2, 0, 0}, []int{0, 1, 0}, []int{0, 0, 1}, 2},
		{[]int{0, 0, 0}, []int{0}, []int{0, 0, 0}, 0},
		{[]int{2, 49, 0}, []int{0, 0, 0}, []int{1, 50, 0}, 1},
		{[]int{2, 0, 0}, []int{0, 1, 2, 2}, []int{0, 0, 1}, 4},
		{[]int{2, 0, 0}, []int{0, 0, 1, 1, 2}, []int{0, 0, 2}, 5},
		{[]int{2, 0, 0}, []int{2, 2, 2}, []int{2, 0, 0}, 0},
	}
	for _, c := range cases {
		if m, many, ok := impl.FireAll(n, c.m, c.seq); !ok || many != c.many || !slices.Equal(m, c.want) {
			t.Errorf("FireAll %v in %v: %v %v %v", c.seq, c.m, m, many, ok)
		}
	}
	for _, none := range [][]int{nil, {}} {
		if m, many, ok := impl.FireAll(impl.Net{Places: 1}, []int{4}, none); !ok || many != 0 || !slices.Equal(m, []int{4}) {
			t.Errorf("FireAll of none, without a transition: %v %v %v", m, many, ok)
		}
	}
}

// zeroOfSeq fails where FireAll tells something of a list of numbers, or writes into an argument.
func zeroOfSeq(t *testing.T, what string, net impl.Net, mark []int, list []int) {
	t.Helper()
	n, m, seq := guardedNet(net), guardedList(mark), guardedList(list)
	quietly(t, what, func() {
		if x, many, ok := impl.FireAll(n, m, seq); len(x) != 0 || many != 0 || ok {
			t.Errorf("FireAll %v in %v, %s: %v %v %v", list, mark, what, x, many, ok)
		}
	})
	untouchedNet(t, what, n, net)
	untouched(t, what, m, mark)
	untouched(t, what, seq, list)
}

// A list with a number that is no transition's is wrong as a whole, wherever that number stands.
func TestFireAllOfNumbersThatAreNone(t *testing.T) {
	n := impl.Net{Places: 2, Trans: []impl.Trans{{In: []int{0}, Out: []int{1}}, {In: []int{1}, Out: []int{0}}}}
	m := []int{1, 0}
	for _, number := range wrongNumbers(len(n.Trans)) {
		for _, c := range []struct {
			what string
			seq  []int
		}{
			{"alone", []int{number}},
			{"at the first place", []int{number, 0, 1}},
			{"in the midst", []int{0, number, 1}},
			{"at the last place", []int{0, 1, number}},
			{"behind the first that does not fire", []int{1, number}},
			{"behind one that does not fire", []int{0, 0, number}},
			{"far behind one that does not fire", []int{0, 0, 1, 0, 1, number, 0}},
			{"at each place", []int{number, number, number}},
			{"at the first place of MaxSeq", append([]int{number}, filled(impl.MaxSeq-1, 0)...)},
			{"at the last place of MaxSeq", append(slices.Repeat([]int{0, 1}, impl.MaxSeq/2)[:impl.MaxSeq-1], number)},
			{"at the last place of MaxSeq that do not fire", append(filled(impl.MaxSeq-1, 1), number)},
			{"behind MaxSeq", append(slices.Repeat([]int{0, 1}, impl.MaxSeq/2), number)},
		} {
			zeroOfSeq(t, c.what, n, m, c.seq)
		}
		zeroOfSeq(t, "in a mark without tokens", n, []int{0, 0}, []int{0, number})
	}
	for _, number := range wrongNumbers(0) {
		zeroOfSeq(t, "alone, without transitions", impl.Net{Places: 1}, []int{1}, []int{number})
		zeroOfSeq(t, "the last of some, without transitions", impl.Net{Places: 1, Trans: []impl.Trans{}}, []int{1}, []int{0, number})
	}
}

// The greatest number that a list may have is that of the last transition, however many there are.
func TestFireAllAtTheLastTransition(t *testing.T) {
	for trans := range impl.MaxTrans + 1 {
		n := impl.Net{Places: 1, Trans: slices.Repeat([]impl.Trans{{In: []int{0}}}, trans)}
		for number := -2; number <= impl.MaxTrans+2; number++ {
			if number < 0 || number >= trans {
				zeroOfSeq(t, "beside the last transition", n, []int{3}, []int{number})
				continue
			}
			if m, many, ok := impl.FireAll(n, []int{3}, []int{number, number}); !ok || many != 2 || !slices.Equal(m, []int{1}) {
				t.Errorf("FireAll %d of %d transitions: %v %v %v", number, trans, m, many, ok)
			}
		}
	}
}

func TestFireAllAtItsLimit(t *testing.T) {
	n := impl.Net{Places: 2, Trans: []impl.Trans{{In: []int{0}, Out: []int{1}}, {In: []int{1}, Out: []int{0}}, {In: []int{0, 1}}}}
	seq := slices.Repeat([]int{0, 1}, impl.MaxSeq/2)
	if m, many, ok := impl.FireAll(n, []int{1, 0}, seq); !ok || many != impl.MaxSeq || !slices.Equal(m, []int{1, 0}) {
		t.Errorf("MaxSeq numbers: %v %v %v", m, many, ok)
	}
	seq[impl.MaxSeq-1] = 2
	if m, many, ok := impl.FireAll(n, []int{1, 0}, seq); !ok || many != impl.MaxSeq-1 || !slices.Equal(m, []int{0, 1}) {
		t.Errorf("MaxSeq numbers, the last of which does not fire: %v %v %v", m, many, ok)
	}
	for _, long := range [][]int{append(slices.Clone(seq), 0), append([]int{2}, seq...), filled(1000, 2)} {
		if m, many, ok := impl.FireAll(n, []int{1, 0}, long); ok || many != 0 || len(m) != 0 {
			t.Errorf("%d numbers: %v %v %v", len(long), m, many, ok)
		}
	}
}

// Sequences of all kinds, with numbers that are none in some of them.
func TestFireAllAsOneByOne(t *testing.T) {
	d := dice(4)
	stopped, through, wrong, wrongBehind := 0, 0, 0, 0
	for places := 1; places <= impl.MaxPlaces; places++ {
		for range 60 {
			n := someNet(&d, places, 1+d.below(impl.MaxTrans), true)
			m := someMark(&d, places, impl.MaxTokens)
			seq := someSeq(&d, d.below(impl.MaxSeq+1), len(n.Trans))
			_, fires, _ := fireAllPlainly(n, m, seq)
			if len(seq) > 0 && d.below(3) == 0 {
				none := wrongNumbers(len(n.Trans))
				at := d.below(len(seq))
				seq[at] = none[d.below(len(none))]
				if at > fires {
					wrongBehind++
				}
			}
			want, times, is := fireAllPlainly(n, m, seq)
			if got, many, ok := impl.FireAll(n, m, seq); ok != is || many != times || !slices.Equal(got, want) {
				t.Fatalf("FireAll %v of %v in %v: %v %v %v, not %v %v %v", seq, n, m, got, many, ok, want, times, is)
			}
			switch {
			case !is:
				wrong++
			case times < len(seq):
				stopped++
			default:
				through++
			}
		}
	}
	if stopped < 100 || through < 40 || wrong < 100 || wrongBehind < 40 {
		t.Errorf("only %d stopped, %d went through, %d were wrong, %d of these behind the last that fired", stopped, through, wrong, wrongBehind)
	}
}

func TestTakersAndGivers(t *testing.T) {
	n := impl.Net{Places: 4, Trans: []impl.Trans{
		{In: []int{0}, Out: []int{1, 2}},
		{In: []int{0, 1}, Out: []int{2}, Reset: []int{3}},
		{In: []int{2}, Out: []int{2}},
		{In: []int{1}, Reset: []int{0, 1, 2, 3}},
	}}
	takers := [][]int{{0, 1}, {1, 3}, {2}, nil}
	givers := [][]int{nil, {0}, {0, 1, 2}, nil}
	for p := range n.Places {
		if l, ok := impl.TakersOf(n, p); !ok || !slices.Equal(l, takers[p]) {
			t.Errorf("TakersOf %d: %v %v", p, l, ok)
		}
		if l, ok := impl.GiversOf(n, p); !ok || !slices.Equal(l, givers[p]) {
			t.Errorf("GiversOf %d: %v %v", p, l, ok)
		}
	}
	for _, p := range []int{-1, 4, impl.MaxPlaces, 64, math.MinInt, math.MaxInt} {
		if l, ok := impl.TakersOf(n, p); ok || len(l) != 0 {
			t.Errorf("TakersOf %d: %v %v", p, l, ok)
		}
		if l, ok := impl.GiversOf(n, p); ok || len(l) != 0 {
			t.Errorf("GiversOf %d: %v %v", p, l, ok)
		}
	}
}

func TestTakersAndGiversOfAllKinds(t *testing.T) {
	d := dice(5)
	for places := 1; places <= impl.MaxPlaces; places++ {
		for _, trans := range []int{0, 1, 10, impl.MaxTrans} {
			n := someNet(&d, places, trans, true)
			for p := range places {
				var takers, givers []int
				for i, tr := range n.Trans {
					if slices.Contains(tr.In, p) {
						takers = append(takers, i)
					}
					if slices.Contains(tr.Out, p) {
						givers = append(givers, i)
					}
				}
				if l, ok := impl.TakersOf(n, p); !ok || !slices.Equal(l, takers) {
					t.Fatalf("TakersOf %d of %v: %v %v", p, n, l, ok)
				}
				if l, ok := impl.GiversOf(n, p); !ok || !slices.Equal(l, givers) {
					t.Fatalf("GiversOf %d of %v: %v %v", p, n, l, ok)
				}
			}
			for _, p := range []int{-1, places} {
				if l, ok := impl.TakersOf(n, p); ok || len(l) != 0 {
					t.Fatalf("TakersOf %d of %v: %v %v", p, n, l, ok)
				}
				if l, ok := impl.GiversOf(n, p); ok || len(l) != 0 {
					t.Fatalf("GiversOf %d of %v: %v %v", p, n, l, ok)
				}
			}
		}
	}
}

func TestIsFreeChoice(t *testing.T) {
	cases := []struct {
		ins  [][]int
		free bool
	}{
		{nil, true},
		{[][]int{{0, 1, 2}}, true},
		{[][]int{{0}, {1}, {2}}, true},
		{[][]int{{0}, {0}, {0}}, true},
		{[][]int{{0, 1}, {2}, {0, 1}}, true},
		{[][]int{{0}, {0, 1}}, false},
		{[][]int{{0, 1}, {0}}, false},
		{[][]int{{0, 1}, {1, 2}}, false},
		{[][]int{{0, 2}, {1, 2}}, false},
		{[][]int{{0}, {1}, {1, 2}}, false},
		{[][]int{{0}, {1}, {0}, {2}, {0, 1, 2}}, false},
		{[][]int{{0, 1}, {0, 1}, {2}, {1}}, false},
	}
	for _, c := range cases {
		n := impl.Net{Places: 3}
		for _, in := range c.ins {
			n.Trans = append(n.Trans, impl.Trans{In: in, Out: []int{0, 1, 2}, Reset: []int{len(n.Trans) % 3}})
		}
		if is, ok := impl.IsFreeChoice(n); is != c.free || !ok {
			t.Errorf("IsFreeChoice of In %v: %v %v", c.ins, is, ok)
		}
	}
}

// All pairs of In that a net of three places may have.
func TestIsFreeChoiceOfPairs(t *testing.T) {
	ins := listsOf(3)[1:]
	for _, a := range ins {
		for _, b := range ins {
			common := slices.ContainsFunc(a, func(p int) bool { return slices.Contains(b, p) })
			want := !common || slices.Equal(a, b)
			n := impl.Net{Places: 3, Trans: []impl.Trans{{In: a}, {In: b}}}
			if is, ok := impl.IsFreeChoice(n); is != want || !ok {
				t.Errorf("IsFreeChoice of %v and %v: %v %v", a, b, is, ok)
			}
		}
	}
}

func TestHasResets(t *testing.T) {
	plain := impl.Trans{In: []int{0}, Out: []int{1}, Reset: []int{}}
	empties := impl.Trans{In: []int{0}, Reset: []int{1}}
	cases := []struct {
		trans []impl.Trans
		want  bool
	}{
		{nil, false},
		{[]impl.Trans{plain}, false},
		{[]impl.Trans{plain, plain, plain}, false},
		{[]impl.Trans{empties}, true},
		{[]impl.Trans{empties, plain}, true},
		{[]impl.Trans{plain, empties}, true},
		{[]impl.Trans{plain, empties, plain}, true},
		{[]impl.Trans{{In: []int{0}, Reset: []int{0}}}, true},
	}
	for _, c := range cases {
		if is, ok := impl.HasResets(impl.Net{Places: 2, Trans: c.trans}); is != c.want || !ok {
			t.Errorf("HasResets of %v: %v %v", c.trans, is, ok)
		}
	}
}

func TestTurnNet(t *testing.T) {
	n := impl.Net{Places: 3, Trans: []impl.Trans{{In: []int{0}, Out: []int{1, 2}}, {In: []int{1, 2}, Out: []int{0}, Reset: []int{}}, {In: []int{1}, Out: []int{1}}}}
	want := impl.Net{Places: 3, Trans: []impl.Trans{{In: []int{1, 2}, Out: []int{0}}, {In: []int{0}, Out: []int{1, 2}}, {In: []int{1}, Out: []int{1}}}}
	if x, ok := impl.TurnNet(n); !ok || !sameNet(x, want) {
		t.Errorf("TurnNet: %v %v", x, ok)
	}
	if x, ok := impl.TurnNet(impl.Net{Places: impl.MaxPlaces}); !ok || !sameNet(x, impl.Net{Places: impl.MaxPlaces}) {
		t.Errorf("TurnNet without a transition: %v %v", x, ok)
	}
	plain := impl.Trans{In: []int{0}, Out: []int{1}}
	for _, wrong := range []impl.Trans{
		{In: []int{0}},
		{In: []int{0}, Out: []int{}},
		{In: []int{0}, Out: []int{1}, Reset: []int{0}},
		{In: []int{0}, Out: []int{1}, Reset: []int{2}},
	} {
		for _, trans := range [][]impl.Trans{{wrong}, {plain, wrong}, {wrong, plain}} {
			if x, ok := impl.TurnNet(impl.Net{Places: 3, Trans: trans}); ok || !sameNet(x, impl.Net{}) {
				t.Errorf("TurnNet of %v: %v %v", trans, x, ok)
			}
		}
	}
}

// A net that is turned twice is itself, and what fires in one fires back in the other.
func TestTurnedNetFiresBack(t *testing.T) {
	d := dice(6)
	back := 0
	for places := 1; places <= impl.MaxPlaces; places++ {
		for range 20 {
			n := someNet(&d, places, d.below(impl.MaxTrans+1), false)
			for i := range n.Trans {
				if len(n.Trans[i].Out) == 0 {
					n.Trans[i].Out = []int{d.below(places)}
				}
			}
			turned, ok := impl.TurnNet(n)
			twice, okTwice := impl.TurnNet(turned)
			if !ok || !okTwice || !sameNet(twice, n) {
				t.Fatalf("TurnNet of %v: %v %v, twice %v %v", n, turned, ok, twice, okTwice)
			}
			m := someMark(&d, places, 2)
			for i := range n.Trans {
				behind, ok := impl.Fire(n, m, i)
				if !ok {
					continue
				}
				back++
				if ahead, ok := impl.Fire(turned, behind, i); !ok || !slices.Equal(ahead, m) {
					t.Fatalf("%d of %v in %v fires to %v, and back to %v %v", i, n, m, behind, ahead, ok)
				}
			}
		}
	}
	if back < 500 {
		t.Errorf("only %d fired back", back)
	}
}

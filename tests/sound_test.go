package tests

import (
	"slices"
	"testing"

	"loop.example/g00662/impl"
)

func TestVerdictCodes(t *testing.T) {
	if impl.VdSound != 1 || impl.VdUnsound != 2 || impl.VdOut != 3 {
		t.Error("a code is not the document's")
	}
}

// soundCase is a flow, what CheckSound tells of it with the greatest budget, and all that IsSafe tells.
type soundCase struct {
	what string
	f    impl.Flow
	want impl.Verdict
	safe bool
}

var toldSound = impl.Verdict{Code: impl.VdSound}

// clause is what is told of a flow that hurts one of the first two.
func clause(number int, seq ...int) impl.Verdict {
	return impl.Verdict{Code: impl.VdUnsound, Clause: number, Seq: seq}
}

// deadAt is what is told of a flow that hurts the third alone.
func deadAt(trans int) impl.Verdict {
	return impl.Verdict{Code: impl.VdUnsound, Clause: 3, Trans: trans}
}

func soundCases() []soundCase {
	both, join := stepOf([]int{0}, 2, 3), stepOf([]int{2, 3}, 1)
	return []soundCase{
		{"one step", flowOf(2, stepOf([]int{0}, 1)), toldSound, true},
		{"one step, the other way round", rowFlow(1, 0), toldSound, true},
		{"a row", rowFlow(0, 2, 1), toldSound, true},
		{"a row through all numbers", rowFlow(3, 0, 4, 2, 1, 5), toldSound, true},
		{"as many places as there may be", rowFlow(numbersTo(impl.MaxPlaces)...), toldSound, true},
		{"as many places and transitions as there may be", longFlow(impl.MaxPlaces, impl.MaxTrans), toldSound, true},
		{"a transition twice", flowOf(2, stepOf([]int{0}, 1), stepOf([]int{0}, 1)), toldSound, true},
		{"a choice", flowOf(4, stepOf([]int{0}, 2), stepOf([]int{0}, 3), stepOf([]int{2}, 1), stepOf([]int{3}, 1)), toldSound, true},
		{"both at once", flowOf(4, both, join), toldSound, true},
		{"round and back", flowOf(4, stepOf([]int{0}, 2), stepOf([]int{2}, 3), stepOf([]int{3}, 2), stepOf([]int{3}, 1)), toldSound, true},
		{"a step to itself", flowWith(3, stepOf([]int{2}, 2)), toldSound, true},
		{"two tokens on one place", twiceFlow(), toldSound, false},
		{"what is left is emptied", flowOf(4, both, emptying([]int{2}, []int{3}, 1), join), toldSound, true},
		{"what is there twice is emptied", flowOf(5, stepOf([]int{0}, 2, 3, 4), stepOf([]int{3}, 4), emptying([]int{2}, []int{3, 4}, 1), stepOf([]int{2, 4}, 2)), toldSound, false},
		{"what is given is emptied first", flowWith(3, emptying([]int{2}, []int{2}, 2)), toldSound, true},
		{"a long row of marks", counterFlow(6), toldSound, true},
		{"just MaxMarks marks", bitsFlow(0), toldSound, true},
	}
}

func unsoundCases() []soundCase {
	both, join := stepOf([]int{0}, 2, 3), stepOf([]int{2, 3}, 1)
	end := stepOf([]int{2}, 1)
	trap := []impl.Trans{stepOf([]int{2}, 3), stepOf([]int{2, 3}, 1)}
	return []soundCase{
		{"clause 1 at start: nothing is enabled", flowOf(3, stepOf([]int{0, 2}, 1, 2)), clause(1), true},
		{"clause 1 at start: what is needed never is there at once", flowOf(4, stepOf([]int{0}, 2), stepOf([]int{0}, 3), join), clause(1), true},
		{"clause 1 at start: round and round", flowOf(4, stepOf([]int{0}, 2), stepOf([]int{2}, 3), stepOf([]int{3}, 2), join), clause(1), true},
		{"clause 1, one step on", flowOf(4, both, join, stepOf([]int{0}, 2)), clause(1, 2), true},
		{"clause 1, two steps on", flowWith(4, trap...), clause(1, 0, 2), true},
		{"clause 1, the first of two that are met", flowWith(5, stepOf([]int{2}, 4), stepOf([]int{2}, 3), stepOf([]int{3, 4}, 1)), clause(1, 0, 2), true},
		{"clause 1, the least of two ways", flowOf(6, stepOf([]int{0}, 2), stepOf([]int{0}, 3), stepOf([]int{3}, 4), stepOf([]int{2}, 4), stepOf([]int{4}, 1), stepOf([]int{4}, 5), stepOf([]int{4, 5}, 1)), clause(1, 0, 3, 5), true},
		{"clause 1, that is not dead but goes round", flowWith(5, stepOf([]int{2}, 3), stepOf([]int{3}, 4), stepOf([]int{4}, 3), stepOf([]int{2, 4}, 1)), clause(1, 0, 2), true},
		{"clause 1, a token is emptied that was needed", flowOf(4, both, emptying([]int{2}, []int{3}, 2), join), clause(1, 0, 1), true},
		{"clause 1, numbers as they come", flowWith(16, slices.Concat(trap, rowFlow(0, 4, 5, 6, 7, 8, 9, 10, 11, 12, 13, 14, 15, 1).Net.Trans)...), clause(1, 0, 2), true},
		{"clauses 1 and 2 at start: two ends", flowOf(4, both, end, stepOf([]int{3}, 1)), clause(1), false},
		{"clauses 1 and 2 at start: one is left", flowOf(4, both, end, join), clause(1, 0, 1), true},
		{"clauses 1 and 2, the mark ahead of what is left", flowOf(4, stepOf([]int{0}, 2), end, both, stepOf([]int{3}, 1)), clause(1, 2), false},
		{"clauses 1 and 2 at one mark", flowOf(4, stepOf([]int{0}, 2), end, both, join), clause(1, 2, 1), true},
		{"clauses 1 and 3", flowWith(5, append(slices.Clone(trap), stepOf([]int{0}, 4), stepOf([]int{4}, 1))...), clause(1, 0, 2), true},
		{"all three clauses", flowOf(4, both, end, stepOf([]int{3}, 1), emptying([]int{0, 2}, nil, 1)), clause(1), false},
		{"clause 3, the last", flowOf(4, stepOf([]int{0}, 2), end, stepOf([]int{0}, 3), stepOf([]int{3}, 1), join), deadAt(4), true},
		{"clause 3, the first", flowOf(4, join, stepOf([]int{0}, 2), end, stepOf([]int{0}, 3), stepOf([]int{3}, 1)), deadAt(0), true},
		{"clause 3, the first of several", flowOf(4, stepOf([]int{0}, 2), join, end, join, stepOf([]int{0}, 3), stepOf([]int{3}, 1), join), deadAt(1), true},
		{"clause 3, by what is emptied", flowOf(5, both, emptying([]int{2}, []int{3}, 4), stepOf([]int{4}, 1), stepOf([]int{3, 4}, 1)), deadAt(3), true},
		{"clause 3, with tokens twice", withTrans(twiceFlow(), stepOf([]int{5, 6}, 1)), deadAt(5), false},
		{"clause 3, behind a long row of marks", withTrans(counterFlow(6), stepOf([]int{2, 3}, 1)), deadAt(8), true},
		{"clause 3, of MaxTrans", withTrans(longFlow(4, impl.MaxTrans-1), stepOf([]int{0, 2}, 3)), deadAt(impl.MaxTrans - 1), true},
	}
}

func TestCheckSound(t *testing.T) {
	for _, c := range append(soundCases(), unsoundCases()...) {
		if !impl.GoodFlow(c.f) {
			t.Errorf("%s: no good flow", c.what)
			continue
		}
		s, code := explorePlainly(c.f.Net, startOf(c.f), impl.MaxMarks)
		if code != impl.SpAll {
			t.Errorf("%s: a space that is cut", c.what)
		}
		for _, budget := range []int{len(s.Marks), min(len(s.Marks)+1, impl.MaxMarks), impl.MaxMarks} {
			if v, ok := impl.CheckSound(c.f, budget); !ok || !sameVerdict(v, c.want) {
				t.Errorf("%s, budget %d: %v %v, not %v", c.what, budget, v, ok, c.want)
			}
			if is, ok := impl.IsSafe(c.f, budget); !ok || is != c.safe {
				t.Errorf("%s, budget %d: safe %v %v", c.what, budget, is, ok)
			}
			checkFlowSound(t, c.f, budget)
		}
		for _, budget := range []int{1, len(s.Marks) / 2, len(s.Marks) - 1} {
			if budget > 0 && budget < len(s.Marks) {
				checkOut(t, c.what, c.f, budget)
			}
		}
	}
}

// checkOut fails where of a space that is cut something else is told than that it is.
func checkOut(t *testing.T, what string, f impl.Flow, budget int) {
	t.Helper()
	if v, ok := impl.CheckSound(f, budget); !ok || !sameVerdict(v, impl.Verdict{Code: impl.VdOut}) {
		t.Errorf("CheckSound, %s, budget %d: %v %v", what, budget, v, ok)
	}
	if c, ok := impl.CertFor(f, budget); ok || !sameCert(c, impl.Cert{}) {
		t.Errorf("CertFor, %s, budget %d: %v %v", what, budget, c, ok)
	}
	if is, ok := impl.IsSafe(f, budget); ok || is {
		t.Errorf("IsSafe, %s, budget %d: %v %v", what, budget, is, ok)
	}
}

// Spaces that the budget cuts, and those that a place cuts that has too many tokens.
func TestFlowsWithoutAnEnd(t *testing.T) {
	grows := flowWith(4, stepOf([]int{2}, 2, 3), stepOf([]int{2, 3}, 1))
	twice := flowWith(5, stepOf([]int{2}, 2, 3), stepOf([]int{3}, 4), stepOf([]int{2, 4}, 1))
	for _, f := range []impl.Flow{grows, twice} {
		for _, budget := range []int{1, 2, 3, 50, 100, 101, 102, 103, 104, 105, impl.MaxMarks - 1, impl.MaxMarks} {
			checkOut(t, "without an end", f, budget)
			checkFlowSound(t, f, budget)
		}
	}
	if _, code, ok := impl.Explore(grows.Net, startOf(grows), impl.MaxMarks); code != impl.SpTokens || !ok {
		t.Error("no space that a place cuts", code, ok)
	}
	// One mark more than MaxMarks.
	checkOut(t, "MaxMarks + 1 marks", bitsFlow(1), impl.MaxMarks)
	checkOut(t, "MaxMarks marks", bitsFlow(0), impl.MaxMarks-1)
}

// A way of MaxSeq steps is told, one of a step more is not: nothing is told in its place, not even what else is hurt.
func TestWaysThatAreTooLong(t *testing.T) {
	for number := range 1 << 6 {
		f, long := stuckAt(6, number), number+2
		want := impl.Verdict{Code: impl.VdOut}
		if long <= impl.MaxSeq {
			want = clause(1, wayOfCounter(6, number)...)
		}
		v, ok := impl.CheckSound(f, impl.MaxMarks)
		if !ok || !sameVerdict(v, want) {
			t.Errorf("%d steps: %v %v, not %v", long, v, ok, want)
		}
		if is, ok := impl.ShowsUnsound(f, v, impl.MaxMarks); !ok || is != (long <= impl.MaxSeq) {
			t.Errorf("%d steps: shown %v %v", long, is, ok)
		}
		// The transition that leads on from there is dead as well.
		if is, ok := impl.ShowsUnsound(f, deadAt(len(f.Net.Trans)-1), impl.MaxMarks); !ok || !is {
			t.Errorf("%d steps: dead %v %v", long, is, ok)
		}
		if c, ok := impl.CertFor(f, impl.MaxMarks); ok || !sameCert(c, impl.Cert{}) {
			t.Errorf("%d steps: %v %v", long, c, ok)
		}
	}
}

// wayOfCounter has the transitions of stuckAt up to where nothing leads on.
func wayOfCounter(bits int, number int) []int {
	way := []int{0}
	for n := range number {
		b := 0
		for n>>b&1 == 1 {
			b++
		}
		way = append(way, b+1)
	}
	return append(way, bits+2)
}

// checkFlowSound holds all that is told of a good flow and a budget against the document's words and promise 9; the code of the verdict.
func checkFlowSound(t *testing.T, f impl.Flow, budget int) int {
	t.Helper()
	want := verdictPlainly(f, budget)
	v, ok := impl.CheckSound(f, budget)
	if !ok || !sameVerdict(v, want) {
		t.Fatalf("CheckSound of %v, budget %d: %v %v, not %v", f, budget, v, ok, want)
	}
	if is, ok := impl.ShowsUnsound(f, v, budget); !ok || is != (v.Code == impl.VdUnsound) {
		t.Fatalf("ShowsUnsound of %v, budget %d, of its own %v: %v %v", f, budget, v, is, ok)
	}
	cert, okCert := certPlainly(f, budget)
	c, ok := impl.CertFor(f, budget)
	if ok != okCert || !sameCert(c, cert) {
		t.Fatalf("CertFor %v, budget %d: %v %v, not %v %v", f, budget, c, ok, cert, okCert)
	}
	if code, is := impl.CheckCert(f, c); !is || ok != (code == 0) {
		t.Fatalf("CheckCert of %v, of its own %v: %v %v", f, c, code, is)
	}
	s, code := explorePlainly(f.Net, startOf(f), budget)
	safe := code == impl.SpAll && safePlainly(s)
	if is, ok := impl.IsSafe(f, budget); ok != (code == impl.SpAll) || is != safe {
		t.Fatalf("IsSafe of %v, budget %d: %v %v", f, budget, is, ok)
	}
	return v.Code
}

// Clause 2 is hurt where clause 1 is: each transition of a good flow gives to some place, and none takes from To, so a mark that has more than end never comes there. So clause 2 is never told, but it is shown.
func TestWhatIsLeftNeverComesToEnd(t *testing.T) {
	d := dice(92)
	left := 0
	for range 6000 {
		f := someSoundFlow(&d)
		s, code := explorePlainly(f.Net, startOf(f), impl.MaxMarks)
		if code != impl.SpAll {
			continue
		}
		hurts := hurtsPlainly(f, s)
		v, _ := impl.CheckSound(f, impl.MaxMarks)
		if v.Clause == 2 || hurts[1] >= 0 && (hurts[0] < 0 || hurts[0] > hurts[1] || v.Clause != 1) {
			t.Fatalf("%v hurts %v, told is %v", f, hurts, v)
		}
		if hurts[1] < 0 {
			continue
		}
		left++
		way, ok := wayPlainly(s, s.Marks[hurts[1]])
		if is, told := impl.ShowsUnsound(f, clause(2, way...), 1); is != ok || !told {
			t.Fatalf("ShowsUnsound of %v, clause 2 by %v: %v %v", f, way, is, told)
		}
	}
	if left < 300 {
		t.Errorf("only %d with tokens left", left)
	}
}

// All good flows of three places from 0 to 1 with up to three transitions.
func TestAllSmallFlowsSound(t *testing.T) {
	codes, clauses := map[int]int{}, map[int]int{}
	for _, f := range smallFlows() {
		codes[checkFlowSound(t, f, impl.MaxMarks)]++
		v, _ := impl.CheckSound(f, impl.MaxMarks)
		clauses[v.Clause]++
		for budget := 1; budget <= 4; budget++ {
			checkFlowSound(t, f, budget)
		}
	}
	if codes[impl.VdSound] < 100 || codes[impl.VdUnsound] < 100 || codes[impl.VdOut] < 100 || clauses[1] < 100 || clauses[3] < 100 {
		t.Errorf("only %v, clauses %v", codes, clauses)
	}
}

func TestFlowsOfAllKindsSound(t *testing.T) {
	d := dice(9)
	codes, clauses, resets, crowded, sizes := map[int]int{}, map[int]int{}, 0, 0, 0
	for range 5000 {
		f := someSoundFlow(&d)
		code := checkFlowSound(t, f, []int{impl.MaxMarks, impl.MaxMarks, 1 + d.below(impl.MaxMarks), 1 + d.below(12)}[d.below(4)])
		codes[code]++
		v, _ := impl.CheckSound(f, impl.MaxMarks)
		clauses[v.Clause]++
		if v.Code != impl.VdSound {
			continue
		}
		if is, _ := impl.HasResets(f.Net); is {
			resets++
		}
		if is, _ := impl.IsSafe(f, impl.MaxMarks); !is {
			crowded++
		}
		c, _ := impl.CertFor(f, impl.MaxMarks)
		sizes += len(c.Marks)
	}
	if codes[impl.VdSound] < 500 || codes[impl.VdUnsound] < 500 || codes[impl.VdOut] < 100 || clauses[1] < 300 || clauses[3] < 50 || resets < 50 || crowded < 5 || sizes < 5000 {
		t.Errorf("only %v, clauses %v, sound ones: %d with resets, %d not safe, %d marks", codes, clauses, resets, crowded, sizes)
	}
}

// A flow without resets whose short net has an end is sound just where that net is live, and end is where one always can come to (van der Aalst).
func TestSoundFlowsAreLiveWhenShort(t *testing.T) {
	d := dice(93)
	live, not := 0, 0
	for range 6000 {
		f := someSoundFlow(&d)
		short, ok := impl.ShortNet(f)
		if resets, _ := impl.HasResets(f.Net); resets || !ok {
			continue
		}
		v, _ := impl.CheckSound(f, impl.MaxMarks)
		is, told := impl.IsLive(short, startOf(f), impl.MaxMarks)
		if v.Code == impl.VdSound && !told || told && is != (v.Code == impl.VdSound) {
			t.Fatalf("%v is told %v, its short net live %v %v", f, v, is, told)
		}
		home, told := impl.IsHome(f.Net, startOf(f), impl.MaxMarks, endOf(f))
		if told != (v.Code != impl.VdOut) || home != (v.Code == impl.VdSound || v.Clause == 3) {
			t.Fatalf("%v is told %v, its end home %v %v", f, v, home, told)
		}
		if is {
			live++
		} else if told {
			not++
		}
	}
	if live < 300 || not < 300 {
		t.Errorf("only %d live, %d not", live, not)
	}
}

// shownCase is a verdict, and the least budget with which it is shown; 0 where it is with none.
type shownCase struct {
	what string
	v    impl.Verdict
	want int
}

func TestShowsUnsound(t *testing.T) {
	// From start to end 0 1, to a mark where a token is left 2 1, to one that is stuck 3, round by 4; 5 is dead. The space has 6 marks.
	f := flowOf(5, stepOf([]int{0}, 2), stepOf([]int{2}, 1), stepOf([]int{0}, 2, 3), stepOf([]int{0}, 4), stepOf([]int{2}, 2), stepOf([]int{3, 4}, 1))
	long := append([]int{0}, filled(impl.MaxSeq-1, 4)...)
	left := append([]int{2}, filled(impl.MaxSeq-2, 4)...)
	code := func(code int, v impl.Verdict) impl.Verdict { v.Code = code; return v }
	trans := func(trans int, v impl.Verdict) impl.Verdict { v.Trans = trans; return v }
	cases := []shownCase{
		{"clause 1, stuck", clause(1, 3), 1},
		{"clause 1, a token is left", clause(1, 2, 1), 1},
		{"clause 1, ahead of that", clause(1, 2), 2},
		{"clause 1, round first", clause(1, 2, 4, 4, 1), 1},
		{"clause 1, start", clause(1), 0},
		{"clause 1, from where end can be come to", clause(1, 0), 0},
		{"clause 1, end", clause(1, 0, 1), 0},
		{"clause 1, a step that does not go at start", clause(1, 1), 0},
		{"clause 1, a step that does not go behind a stuck mark", clause(1, 3, 0), 0},
		{"clause 1, a step that does not go in the midst", clause(1, 2, 3, 1), 0},
		{"clause 1, no transition's number", clause(1, 6), 0},
		{"clause 1, no transition's number behind a stuck mark", clause(1, 3, 6), 0},
		{"clause 1, a number below 0", clause(1, 3, -1), 0},
		{"clause 1, a transition is told", trans(5, clause(1, 3)), 0},
		{"clause 1, a transition below 0 is told", trans(-1, clause(1, 3)), 0},
		{"clause 1, MaxSeq steps", clause(1, append(slices.Clone(left), 1)...), 1},
		{"clause 1, a step more than MaxSeq", clause(1, append(slices.Clone(left), 4, 1)...), 0},
		{"clause 1, a great many steps", clause(1, append([]int{2}, filled(1000, 4)...)...), 0},
		{"clause 2, a token is left", clause(2, 2, 1), 1},
		{"clause 2, round first", clause(2, 2, 4, 4, 1), 1},
		{"clause 2, MaxSeq steps", clause(2, append(slices.Clone(left), 1)...), 1},
		{"clause 2, a step more than MaxSeq", clause(2, append(slices.Clone(left), 4, 1)...), 0},
		{"clause 2, ahead of that", clause(2, 2), 0},
		{"clause 2, end", clause(2, 0, 1), 0},
		{"clause 2, start", clause(2), 0},
		{"clause 2, stuck", clause(2, 3), 0},
		{"clause 2, a step that does not go behind it", clause(2, 2, 1, 1), 0},
		{"clause 2, a step that does not go in the midst", clause(2, 2, 0, 1), 0},
		{"clause 2, no transition's number", clause(2, 2, 1, 7), 0},
		{"clause 2, a transition is told", trans(5, clause(2, 2, 1)), 0},
		{"clause 3, dead", deadAt(5), 6},
		{"clause 3, the first, that is not", deadAt(0), 0},
		{"clause 3, another that is not", deadAt(4), 0},
		{"clause 3, no transition's number", deadAt(6), 0},
		{"clause 3, a number below 0", deadAt(-1), 0},
		{"clause 3, with a way", trans(5, clause(3, 3)), 0},
		{"clause 3, with a way that goes nowhere", trans(5, clause(3, 9)), 0},
		{"no clause", trans(0, clause(0, 3)), 0},
		{"no clause, a dead transition", trans(5, clause(0)), 0},
		{"clause 4", clause(4, 3), 0},
		{"clause 4, a dead transition", trans(5, clause(4)), 0},
		{"a clause below 0", clause(-1, 3), 0},
		{"clause 1, long, from where end can be come to", clause(1, long...), 0},
		{"nothing at all", impl.Verdict{}, 0},
	}
	for _, c := range slices.Clone(cases) {
		for _, other := range []int{0, impl.VdSound, impl.VdOut, 4, -1, 1<<32 + impl.VdUnsound} {
			cases = append(cases, shownCase{c.what + ", another code", code(other, c.v), 0})
		}
	}
	for _, c := range cases {
		for budget := 1; budget <= 8; budget++ {
			want := c.want > 0 && budget >= c.want
			if is, ok := impl.ShowsUnsound(f, c.v, budget); is != want || !ok {
				t.Errorf("%s, budget %d: %v %v", c.what, budget, is, ok)
			}
		}
		if is, ok := impl.ShowsUnsound(f, c.v, impl.MaxMarks); is != (c.want > 0) || !ok {
			t.Errorf("%s: %v %v", c.what, is, ok)
		}
		// A sound flow is shown to be unsound by nothing.
		if is, ok := impl.ShowsUnsound(rowFlow(0, 2, 1), c.v, impl.MaxMarks); is || !ok {
			t.Errorf("%s, of a sound flow: %v %v", c.what, is, ok)
		}
	}
	for _, number := range wrongNumbers(6) {
		for _, v := range []impl.Verdict{clause(1, number), clause(1, 3, number), clause(1, number, 3), clause(2, 2, 1, number), clause(2, number, 2, 1), deadAt(number), trans(number, clause(1, 3)), trans(number, clause(2, 2, 1)), clause(number, 3)} {
			if number == 1 {
				continue
			}
			if is, ok := impl.ShowsUnsound(f, v, impl.MaxMarks); is || !ok {
				t.Errorf("a wrong number %d, %v: %v %v", number, v, is, ok)
			}
		}
	}
}

// Where the space behind a mark goes beyond a limit nothing is shown of it by clause 1, by clause 2 it is; dead transitions are shown in no space that is cut.
func TestShowsUnsoundInSpacesThatAreCut(t *testing.T) {
	f := flowWith(5, stepOf([]int{2}, 2, 3), stepOf([]int{3, 4}, 1), stepOf([]int{0}, 4))
	for _, c := range []struct {
		v    impl.Verdict
		want bool
	}{
		{clause(1, 4), true},
		{clause(1, 0, 2), false},
		{clause(1, 0, 2, 1), true},
		{clause(1, append([]int{0}, filled(50, 2)...)...), false},
		{clause(1, append(append([]int{0}, filled(50, 2)...), 1)...), true},
		{clause(1, append(append([]int{0}, filled(51, 2)...), 1)...), false},
		{clause(2, append(append([]int{0}, filled(50, 2)...), 1)...), true},
		{clause(2, append(append([]int{0}, filled(51, 2)...), 1)...), false},
		{clause(2, 0, 2, 1), true},
		{clause(2, 0, 1), false},
		{deadAt(3), false},
	} {
		for _, budget := range []int{1, 60, impl.MaxMarks} {
			if is, ok := impl.ShowsUnsound(f, c.v, budget); is != c.want || !ok || showsPlainly(f, c.v, budget) != is {
				t.Errorf("%v, budget %d: %v %v", c.v, budget, is, ok)
			}
		}
	}
}

// someVerdict is near to what may be told of a flow.
func someVerdict(d *dice, f impl.Flow, v impl.Verdict) impl.Verdict {
	trans := len(f.Net.Trans)
	v.Seq = slices.Clone(v.Seq)
	if d.below(2) == 0 {
		v = impl.Verdict{Code: impl.VdUnsound, Clause: 1 + d.below(3)}
		m := startOf(f)
		for range d.below(12) {
			l, _ := impl.Enabled(f.Net, m)
			if len(l) == 0 {
				break
			}
			next := l[d.below(len(l))]
			behind, ok := impl.Fire(f.Net, m, next)
			if !ok {
				break
			}
			v.Seq, m = append(v.Seq, next), behind
		}
	}
	switch d.below(8) {
	case 0:
		v.Code = d.below(5)
	case 1:
		v.Clause = d.below(5)
	case 2:
		v.Trans = d.below(trans + 1)
	case 3:
		v.Seq = append(v.Seq, d.below(trans+1))
	case 4:
		v.Seq = v.Seq[:len(v.Seq)/2]
	case 5:
		v.Seq, v.Clause, v.Trans = nil, 3, d.below(trans+1)
	}
	return v
}

// Promise 9 by verdicts: each is shown just where the document's words say so, and none of a sound flow.
func TestVerdictsOfAllKinds(t *testing.T) {
	d := dice(94)
	shown, not := map[int]int{}, 0
	for range 5000 {
		f := someSoundFlow(&d)
		own, _ := impl.CheckSound(f, impl.MaxMarks)
		for range 6 {
			v, budget := someVerdict(&d, f, own), []int{1 + d.below(10), impl.MaxMarks}[d.below(2)]
			is, ok := impl.ShowsUnsound(f, v, budget)
			if !ok || is != showsPlainly(f, v, budget) {
				t.Fatalf("ShowsUnsound of %v, %v, budget %d: %v %v", f, v, budget, is, ok)
			}
			if is && own.Code == impl.VdSound {
				t.Fatalf("%v is told sound, and shown not to be by %v", f, v)
			}
			if is {
				shown[v.Clause]++
			} else {
				not++
			}
		}
	}
	if shown[1] < 200 || shown[2] < 50 || shown[3] < 50 || not < 1000 {
		t.Errorf("only %v shown, %d not", shown, not)
	}
}

func TestIsSafe(t *testing.T) {
	for _, c := range []struct {
		what string
		f    impl.Flow
		want bool
	}{
		{"a second token in the midst", flowOf(5, stepOf([]int{0}, 2, 3), stepOf([]int{2}, 4), stepOf([]int{3}, 4), stepOf([]int{4}, 1)), false},
		{"a second token at the end alone", flowOf(4, stepOf([]int{0}, 2, 3), stepOf([]int{2}, 1), stepOf([]int{3}, 1)), false},
		{"a second token that is emptied", flowOf(4, stepOf([]int{0}, 2, 3), stepOf([]int{3}, 2), emptying([]int{2}, []int{2, 3}, 1)), false},
		{"what is emptied ahead of a second token", flowOf(4, stepOf([]int{0}, 2), emptying([]int{2}, []int{3}, 2, 3), emptying([]int{2, 3}, []int{3}, 1)), true},
		{"unsound and safe", flowOf(4, stepOf([]int{0}, 2, 3), stepOf([]int{2}, 1), stepOf([]int{2, 3}, 1)), true},
		{"many bits, MaxMarks marks", bitsFlow(0), true},
	} {
		s, code := explorePlainly(c.f.Net, startOf(c.f), impl.MaxMarks)
		if !impl.GoodFlow(c.f) || code != impl.SpAll {
			t.Fatalf("%s: no good flow, or a space that is cut", c.what)
		}
		for _, budget := range []int{len(s.Marks), impl.MaxMarks} {
			if is, ok := impl.IsSafe(c.f, budget); is != c.want || !ok {
				t.Errorf("%s, budget %d: %v %v", c.what, budget, is, ok)
			}
		}
		for _, budget := range []int{1, len(s.Marks) - 1, 0, impl.MaxMarks + 1} {
			if is, ok := impl.IsSafe(c.f, budget); is || ok {
				t.Errorf("%s, budget %d: %v %v", c.what, budget, is, ok)
			}
		}
	}
}

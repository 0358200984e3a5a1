package tests

import (
	"math"
	"slices"
	"testing"

	"loop.example/g00662/impl"
)

func TestCertFor(t *testing.T) {
	cases := []struct {
		what string
		f    impl.Flow
		want impl.Cert
	}{
		{"one step", rowFlow(0, 1), impl.Cert{Marks: [][]int{{0, 1}, {1, 0}}, Steps: []int{1, 0}, Ranks: []int{0, 1}}},
		{"one step, the other way round", rowFlow(1, 0), impl.Cert{Marks: [][]int{{0, 1}, {1, 0}}, Steps: []int{0, 1}, Ranks: []int{1, 0}}},
		{"a row", rowFlow(0, 2, 1), impl.Cert{Marks: [][]int{{0, 0, 1}, {0, 1, 0}, {1, 0, 0}}, Steps: []int{1, 2, 0}, Ranks: []int{1, 0, 2}}},
		{"a shorter way there and another one on", flowOf(5, stepOf([]int{0}, 2), stepOf([]int{2}, 3), stepOf([]int{3}, 4), stepOf([]int{4}, 1), stepOf([]int{0}, 4), stepOf([]int{2}, 1)), impl.Cert{
			Marks: [][]int{{0, 0, 0, 0, 1}, {0, 0, 0, 1, 0}, {0, 0, 1, 0, 0}, {0, 1, 0, 0, 0}, {1, 0, 0, 0, 0}},
			Steps: []int{1, 2, 1, 2, 0}, Ranks: []int{1, 2, 1, 0, 2},
		}},
		{"round and back", flowOf(4, stepOf([]int{0}, 2), stepOf([]int{2}, 3), stepOf([]int{3}, 2), stepOf([]int{2}, 1)), impl.Cert{
			Marks: [][]int{{0, 0, 0, 1}, {0, 0, 1, 0}, {0, 1, 0, 0}, {1, 0, 0, 0}},
			Steps: []int{2, 1, 2, 0}, Ranks: []int{2, 1, 0, 2},
		}},
		{"both at once, a step to itself", flowOf(4, stepOf([]int{0}, 2, 3), stepOf([]int{2, 3}, 1), stepOf([]int{3}, 3)), impl.Cert{
			Marks: [][]int{{0, 0, 1, 1}, {0, 1, 0, 0}, {1, 0, 0, 0}},
			Steps: []int{1, 2, 0}, Ranks: []int{1, 0, 2},
		}},
		{"what is left is emptied", flowOf(4, stepOf([]int{0}, 2, 3), emptying([]int{2}, []int{3}, 1), emptying([]int{2, 3}, nil, 2)), impl.Cert{
			Marks: [][]int{{0, 0, 1, 0}, {0, 0, 1, 1}, {0, 1, 0, 0}, {1, 0, 0, 0}},
			Steps: []int{2, 1, 2, 0}, Ranks: []int{1, 1, 0, 2},
		}},
	}
	for _, c := range cases {
		many := len(c.want.Marks)
		for _, budget := range []int{many, many + 1, impl.MaxMarks} {
			if got, ok := impl.CertFor(c.f, budget); !ok || !sameCert(got, c.want) {
				t.Errorf("%s, budget %d: %v %v", c.what, budget, got, ok)
			}
		}
		for budget := 1; budget < many; budget++ {
			checkOut(t, c.what, c.f, budget)
		}
		checkCert(t, c.f, c.want, 0)
	}
	for _, c := range unsoundCases() {
		if got, ok := impl.CertFor(c.f, impl.MaxMarks); ok || !sameCert(got, impl.Cert{}) {
			t.Errorf("%s: %v %v", c.what, got, ok)
		}
	}
}

// checkCert holds CheckCert against a code and the document's words.
func checkCert(t *testing.T, f impl.Flow, c impl.Cert, want int) {
	t.Helper()
	if code, ok := impl.CheckCert(f, c); !ok || code != want || codePlainly(f, c) != want {
		t.Errorf("CheckCert of %v, %v: %v %v, not %v, plainly %v", f, c, code, ok, want, codePlainly(f, c))
	}
}

// certCase is a certificate of a flow that somebody made.
type certCase struct {
	what string
	f    impl.Flow
	c    impl.Cert
	want int
}

// rowCert is the certificate of a row of three places.
func rowCert() impl.Cert {
	return impl.Cert{Marks: [][]int{{0, 0, 1}, {0, 1, 0}, {1, 0, 0}}, Steps: []int{1, 2, 0}, Ranks: []int{1, 0, 2}}
}

func certCasesOfLists() []certCase {
	row, own := rowFlow(0, 2, 1), rowCert()
	mid, end, start := []int{0, 0, 1}, []int{0, 1, 0}, []int{1, 0, 0}
	l := []certCase{
		{"its own", row, own, 0},
		{"nothing at all", row, impl.Cert{}, 1},
		{"no mark", row, withMarks(own), 1},
		{"no mark and no number", row, impl.Cert{Marks: [][]int{}, Steps: []int{}, Ranks: []int{}}, 1},
		{"no numbers", row, impl.Cert{Marks: own.Marks}, 1},
		{"the first two are out of order", row, withMarks(own, end, mid, start), 1},
		{"the last two are out of order", row, withMarks(own, mid, start, end), 1},
		{"all the other way round", row, withMarks(own, start, end, mid), 1},
		{"the first one twice", row, impl.Cert{Marks: [][]int{mid, mid, end, start}, Steps: []int{1, 1, 2, 0}, Ranks: []int{1, 1, 0, 2}}, 1},
		{"the last one twice", row, impl.Cert{Marks: [][]int{mid, end, start, start}, Steps: []int{1, 2, 0, 0}, Ranks: []int{1, 0, 2, 2}}, 1},
		{"the first one again at the end", row, impl.Cert{Marks: [][]int{mid, end, start, mid}, Steps: []int{1, 2, 0, 1}, Ranks: []int{1, 0, 2, 1}}, 1},
		{"one Step too few", row, withSteps(own, 1, 2), 1},
		{"one Step too many", row, withSteps(own, 1, 2, 0, 0), 1},
		{"no Steps", row, withSteps(own), 1},
		{"one Rank too few", row, withRanks(own, 1, 0), 1},
		{"one Rank too many", row, withRanks(own, 1, 0, 2, 3), 1},
		{"no Ranks", row, withRanks(own), 1},
		{"one of each too few", row, impl.Cert{Marks: own.Marks, Steps: []int{1, 2}, Ranks: []int{1, 0}}, 1},
		{"one mark too few", row, withMarks(own, mid, end), 1},
	}
	for i := range 3 {
		for _, below := range []int{-1, -2, math.MinInt, -1 << 32} {
			steps, ranks := cloneCert(own), cloneCert(own)
			steps.Steps[i], ranks.Ranks[i] = below, below
			l = append(l, certCase{"a Step below 0", row, steps, 1}, certCase{"a Rank below 0", row, ranks, 1})
		}
		for _, m := range [][]int{nil, {}, {0, 0}, {0, 1}, {1, 0}, {0, 0, 1, 0}, {0, 0, -1}, {0, -1, 1}, {-1, 0, 1}, {1, 0, -1}, {0, 0, impl.MaxTokens + 1}, {impl.MaxTokens + 1, 0, 0}, {0, 0, 256}, {0, 0, 257}, {0, 1 << 32, 0}, {math.MaxInt, 0, 0}, {0, 0, math.MinInt}, {0, 0, impl.Many}} {
			c := cloneCert(own)
			c.Marks[i] = m
			l = append(l, certCase{"no good mark", row, c, 1})
			c = cloneCert(own)
			c.Marks, c.Steps, c.Ranks = slices.Insert(c.Marks, i, m), append(c.Steps, 9), append(c.Ranks, 9)
			l = append(l, certCase{"no good mark beside", row, c, 1})
		}
	}
	return l
}

func certCasesOfMarks() []certCase {
	row, own := rowFlow(0, 2, 1), rowCert()
	pair := flowOf(4, stepOf([]int{0}, 2), stepOf([]int{2}, 3), stepOf([]int{3}, 2), stepOf([]int{2}, 1))
	still := flowOf(3, stepOf([]int{0, 2}, 1, 2))
	full := flowWith(4, stepOf([]int{2}, 2, 3), stepOf([]int{2, 3}, 1))
	var grown impl.Cert
	for n := range impl.MaxTokens + 1 {
		grown = added(grown, []int{0, 0, 1, n}, n+1, n+1)
		grown = added(grown, []int{0, 1, 0, n}, n+2, n)
	}
	return []certCase{
		{"without start", row, dropped(own, 2), 2},
		{"end alone", row, dropped(dropped(own, 2), 0), 2},
		{"another mark alone", row, impl.Cert{Marks: [][]int{{0, 0, 0}}, Steps: []int{0}, Ranks: []int{0}}, 2},
		{"start with a token more", row, withMarks(own, []int{0, 0, 1}, []int{0, 1, 0}, []int{1, 0, 1}), 2},
		{"without the one in the midst", row, dropped(own, 0), 3},
		{"without end, to which one fires", row, dropped(own, 1), 3},
		{"start alone", row, dropped(dropped(own, 0), 0), 3},
		{"a mark more, that fires elsewhere", row, added(own, []int{0, 0, 2}, 9, 9), 3},
		{"more and more tokens, up to MaxTokens", full, added(grown, []int{1, 0, 0, 0}, 0, 9), 3},
		{"more and more tokens, beside no token at all", full, added(added(grown, []int{1, 0, 0, 0}, 0, 9), []int{0, 0, 0, 0}, 99, 0), 3},
		{"a mark more, to which none fires", row, added(own, []int{0, 0, 0}, 9, 9), 4},
		{"a mark more, to which none fires, with Step 0", row, added(own, []int{0, 2, 0}, 0, 9), 4},
		{"two marks more, the one fires to the other", row, added(added(own, []int{0, 1, 1}, 8, 9), []int{0, 2, 0}, 9, 8), 4},
		{"two marks more that fire to each other and on", pair, added(added(added(certFor(pair), []int{0, 1, 1, 0}, 5, 8), []int{0, 1, 0, 1}, 6, 9), []int{0, 2, 0, 0}, 7, 7), 4},
		{"start alone, where nothing is enabled", still, impl.Cert{Marks: [][]int{{1, 0, 0}}, Steps: []int{0}, Ranks: []int{0}}, 5},
		{"start and end, where nothing is enabled", still, impl.Cert{Marks: [][]int{{0, 1, 0}, {1, 0, 0}}, Steps: []int{1, 0}, Ranks: []int{0, 1}}, 4},
	}
}

// certFor is the certificate of a sound flow by the document's words.
func certFor(f impl.Flow) impl.Cert {
	c, _ := certPlainly(f, impl.MaxMarks)
	return c
}

func certCasesOfNumbers() []certCase {
	row, own := rowFlow(0, 2, 1), rowCert()
	loop := flowWith(3, stepOf([]int{2}, 2))
	fork := flowOf(4, stepOf([]int{0}, 2), stepOf([]int{2}, 3), stepOf([]int{3}, 2), stepOf([]int{2}, 1), stepOf([]int{0}, 3))
	forked := certFor(fork) // {0 0 0 1}, {0 0 1 0}, {0 1 0 0}, {1 0 0 0}: Steps 1 1 2 0, Ranks 2 1 0 2.
	left := flowOf(4, stepOf([]int{0}, 2, 3), stepOf([]int{2}, 1), stepOf([]int{2, 3}, 1))
	lost := impl.Cert{Marks: [][]int{{0, 0, 1, 1}, {0, 1, 0, 0}, {0, 1, 0, 1}, {1, 0, 0, 0}}, Steps: []int{1, 2, 2, 0}, Ranks: []int{1, 0, 0, 2}}
	dead := flowOf(4, stepOf([]int{0}, 2), stepOf([]int{2}, 1), stepOf([]int{0}, 3), stepOf([]int{3}, 1), stepOf([]int{2, 3}, 1))
	spaceOfDead, _ := explorePlainly(dead.Net, startOf(dead), impl.MaxMarks)
	great := math.MaxInt
	return []certCase{
		{"Steps with gaps", row, withSteps(own, 7, 90, 0), 0},
		{"Steps as great as can be", row, withSteps(own, great-1, great, 0), 0},
		{"start's Steps are 1", row, withSteps(own, 2, 3, 1), 4},
		{"start's Steps are not 0, all others are right", row, withSteps(own, 8, 9, 7), 4},
		{"start's Steps are as great as can be", row, withSteps(own, great, great, great), 4},
		{"two have Step 0", row, withSteps(own, 0, 1, 0), 4},
		{"all have Step 0", row, withSteps(own, 0, 0, 0), 4},
		{"Steps that stay", row, withSteps(own, 1, 1, 0), 4},
		{"Steps that go down", row, withSteps(own, 2, 1, 0), 4},
		{"Steps the other way round", row, withSteps(own, 1, 0, 2), 4},
		{"Steps to itself alone", loop, withSteps(own, 0, 1, 0), 4},
		{"another one is nearer", fork, withSteps(forked, 2, 1, 2, 0), 0},
		{"the other one is nearer", fork, withSteps(forked, 1, 2, 3, 0), 0},
		{"both are as near", fork, withSteps(forked, 5, 5, 6, 0), 0},
		{"both are as near, and end is, too", fork, withSteps(forked, 5, 5, 5, 0), 4},
		{"Ranks with gaps", row, withRanks(own, 7, 0, 90), 0},
		{"Ranks as great as can be", row, withRanks(own, great-1, 0, great), 0},
		{"Ranks that stay at start", row, withRanks(own, 2, 0, 2), 5},
		{"Ranks that go up at start", row, withRanks(own, 3, 0, 2), 5},
		{"Ranks that stay ahead of end", row, withRanks(own, 0, 0, 2), 5},
		{"all have Rank 0", row, withRanks(own, 0, 0, 0), 5},
		{"Ranks the other way round", row, withRanks(own, 1, 2, 0), 5},
		{"Ranks to itself alone", loop, withRanks(own, 0, 0, 2), 5},
		{"end's Rank is as great as can be", row, withRanks(own, 1, great, 2), 5},
		{"Ranks by the longer way round", fork, withRanks(forked, 2, 1, 0, 3), 0},
		{"one lesser Rank is enough", fork, withRanks(forked, 6, 5, 0, 6), 0},
		{"no lesser Rank", fork, withRanks(forked, 5, 5, 0, 6), 5},
		{"a mark that has more than end", left, lost, 5},
		{"a mark that has more than end, with a great Rank", left, withRanks(lost, 1, 0, 9, 2), 5},
		{"end's Rank is 1", row, withRanks(own, 2, 1, 3), 6},
		{"end's Rank is great", row, withRanks(own, great-1, 7, great), 6},
		{"a dead transition", dead, certOf(dead, spaceOfDead), 7},
		{"the last of MaxTrans is dead", withTrans(longFlow(3, impl.MaxTrans-1), stepOf([]int{0, 1}, 2)), certFor(longFlow(3, 2)), 7},
		{"a transition is dead for want of a mark", flowWith(4, stepOf([]int{2}, 3), stepOf([]int{3}, 1)), added(withMarks(own, []int{0, 0, 1, 0}, []int{0, 1, 0, 0}, []int{1, 0, 0, 0}), []int{0, 0, 0, 0}, 1, 1), 3},
	}
}

// Where several clauses are hurt the lowest is told.
func certCasesOfSeveral() []certCase {
	row, own := rowFlow(0, 2, 1), rowCert()
	dead := withTrans(rowFlow(0, 3, 1, 2), stepOf([]int{1, 3}, 2))
	rowed := certFor(rowFlow(0, 3, 1, 2)) // {0 0 0 1}, {0 0 1 0}, {0 1 0 0}, {1 0 0 0}: Steps 1 3 2 0, Ranks 2 0 1 3.
	return []certCase{
		{"1 ahead of 2", row, withSteps(dropped(own, 2), 1, -1), 1},
		{"1 ahead of 2, no marks in order", row, withMarks(dropped(own, 2), []int{0, 1, 0}, []int{0, 0, 1}), 1},
		{"1 ahead of 3", row, withRanks(dropped(own, 1), 1, -2), 1},
		{"1 ahead of 4", row, withSteps(own, 0, -1, 0), 1},
		{"1 ahead of 4, the Ranks", row, withRanks(withSteps(own, 0, 0, 0), 0, -1, 0), 1},
		{"1 at the last mark ahead of 3 at the first", row, impl.Cert{Marks: [][]int{{0, 0, 2}, {1, 0, 0}, {1, 0, -1}}, Steps: []int{0, 0, 0}, Ranks: []int{0, 0, 0}}, 1},
		{"1 ahead of 7", dead, withRanks(rowed, 2, 0, 1), 1},
		{"2 ahead of 3", row, dropped(dropped(own, 1), 1), 2},
		{"2 ahead of 4 and 5", row, withRanks(withSteps(dropped(own, 2), 3, 3), 3, 3), 2},
		{"2 ahead of 6", row, withRanks(dropped(own, 2), 2, 1), 2},
		{"2 ahead of 7", dead, dropped(rowed, 3), 2},
		{"3 ahead of 4", row, withSteps(dropped(own, 1), 1, 1), 3},
		{"3 at the last mark ahead of 4 at the first", row, withSteps(dropped(own, 0), 0, 3), 3},
		{"3 ahead of 5", row, withRanks(dropped(own, 1), 2, 2), 3},
		{"3 ahead of 6", row, withRanks(dropped(own, 0), 1, 2), 3},
		{"3 ahead of 7", dead, dropped(rowed, 0), 3},
		{"4 ahead of 5", row, withRanks(withSteps(own, 2, 2, 0), 2, 2, 2), 4},
		{"4 at the last mark ahead of 5 at the first", row, withRanks(withSteps(own, 2, 3, 1), 0, 0, 0), 4},
		{"4 ahead of 6", row, withRanks(withSteps(own, 2, 2, 0), 2, 1, 3), 4},
		{"4 ahead of 6, a mark that has more than end", row, added(own, []int{0, 2, 0}, 9, 9), 4},
		{"4 ahead of 7", dead, withSteps(rowed, 1, 2, 2, 0), 4},
		{"5 ahead of 6", row, withRanks(own, 1, 1, 2), 5},
		{"5 ahead of 6, the same Ranks", row, withRanks(own, 9, 9, 9), 5},
		{"5 ahead of 7", dead, withRanks(rowed, 2, 0, 2, 3), 5},
		{"6 ahead of 7", dead, withRanks(rowed, 3, 1, 2, 4), 6},
		{"7 alone", dead, rowed, 7},
	}
}

func TestCheckCert(t *testing.T) {
	met := map[int]int{}
	for _, c := range slices.Concat(certCasesOfLists(), certCasesOfMarks(), certCasesOfNumbers(), certCasesOfSeveral()) {
		if !impl.GoodFlow(c.f) {
			t.Errorf("%s: no good flow", c.what)
		}
		if code, ok := impl.CheckCert(c.f, c.c); code != c.want || !ok {
			t.Errorf("%s: %v %v, not %v", c.what, code, ok, c.want)
		}
		if code := codePlainly(c.f, c.c); code != c.want {
			t.Errorf("%s: plainly %v, not %v", c.what, code, c.want)
		}
		met[c.want]++
	}
	if len(met) != 8 {
		t.Error("a code is not met", met)
	}
}

// A certificate of MaxMarks marks is taken, one of a mark more is not, though all else of it is right.
func TestCertsAtTheirLimit(t *testing.T) {
	for more, want := range []int{0, 1} {
		f := bitsFlow(more)
		c := limitCert(f)
		if !impl.GoodFlow(f) || len(c.Marks) != impl.MaxMarks+more {
			t.Fatalf("%d marks of a flow that is good: %v", len(c.Marks), impl.GoodFlow(f))
		}
		checkCert(t, f, c, want)
	}
	f := bitsFlow(0)
	c, ok := impl.CertFor(f, impl.MaxMarks)
	if !ok || !sameCert(c, limitCert(f)) {
		t.Fatalf("CertFor: %d marks, %v", len(c.Marks), ok)
	}
	for k := range c.Marks {
		less, ok := impl.DropMark(c, k)
		if code, is := impl.CheckCert(f, less); !ok || !is || code == 0 || code != codePlainly(f, less) {
			t.Fatalf("without mark %d: %v %v", k, code, is)
		}
	}
	for _, k := range []int{0, impl.MaxMarks - 1, impl.MaxMarks} {
		if less, ok := impl.DropMark(limitCert(bitsFlow(1)), k); ok || !sameCert(less, impl.Cert{}) {
			t.Errorf("DropMark of %d marks: %v", impl.MaxMarks+1, ok)
		}
	}
	great := impl.Cert{Marks: slices.Repeat(c.Marks, 100), Steps: slices.Repeat(c.Steps, 100), Ranks: slices.Repeat(c.Ranks, 100)}
	checkCert(t, f, great, 1)
	if less, ok := impl.DropMark(great, 0); ok || !sameCert(less, impl.Cert{}) {
		t.Error("DropMark of a great many marks", ok)
	}
}

// limitCert has all marks of a flow, however many, as CertFor would tell them.
func limitCert(f impl.Flow) impl.Cert {
	s, _ := explorePlainly(f.Net, startOf(f), 2*impl.MaxMarks)
	return certOf(f, s)
}

// A way may be longer than MaxSeq where none is to be told.
func TestLongCerts(t *testing.T) {
	f := counterFlow(6)
	c, ok := impl.CertFor(f, impl.MaxMarks)
	if !ok || slices.Max(c.Steps) != 65 || slices.Max(c.Ranks) != 65 || !sameCert(c, certFor(f)) {
		t.Errorf("CertFor: %v %v", c, ok)
	}
	checkCert(t, f, c, 0)
}

func TestDropMark(t *testing.T) {
	// What a certificate holds is not asked: it is cut all the same.
	odd := impl.Cert{Marks: [][]int{{5, -3}, nil, {1 << 40}, {}}, Steps: []int{-1, 7, 0, math.MinInt}, Ranks: []int{4, 4, -4, math.MaxInt}}
	one := impl.Cert{Marks: [][]int{{1}}, Steps: []int{2}, Ranks: []int{3}}
	for _, c := range []impl.Cert{rowCert(), odd, one, certFor(counterFlow(3)), certFor(bitsFlow(0))} {
		for k := range c.Marks {
			if got, ok := impl.DropMark(c, k); !ok || !sameCert(got, dropped(c, k)) {
				t.Errorf("DropMark %d of %v: %v %v", k, c, got, ok)
			}
		}
		for _, k := range []int{-1, -2, -len(c.Marks), len(c.Marks), len(c.Marks) + 1, impl.MaxMarks, 1 << 32, -1 << 32, math.MinInt, math.MaxInt} {
			if k < len(c.Marks) && k >= 0 {
				continue
			}
			if got, ok := impl.DropMark(c, k); ok || !sameCert(got, impl.Cert{}) {
				t.Errorf("DropMark %d of %d marks: %v %v", k, len(c.Marks), got, ok)
			}
		}
	}
	if got, ok := impl.DropMark(one, 0); !ok || len(got.Marks)+len(got.Steps)+len(got.Ranks) != 0 {
		t.Error("the only one", got, ok)
	}
	own := rowCert()
	for _, c := range []impl.Cert{{}, withMarks(own), withSteps(own, 1, 2), withSteps(own, 1, 2, 0, 0), withSteps(own), withRanks(own, 1, 0), withRanks(own, 1, 0, 2, 2), withRanks(own), withMarks(own, own.Marks[:2]...), withMarks(own, append(own.Marks, []int{1, 0, 0})...)} {
		for k := -1; k < 5; k++ {
			if got, ok := impl.DropMark(c, k); ok || !sameCert(got, impl.Cert{}) {
				t.Errorf("DropMark %d of %v: %v %v", k, c, got, ok)
			}
		}
	}
}

// Promise 9: the certificate of each flow that is told sound is taken, and none that lacks one of its marks.
func TestCertsOfAllKinds(t *testing.T) {
	d := dice(95)
	taken, drops := 0, map[int]int{}
	for range 2500 {
		f := someSoundFlow(&d)
		c, ok := impl.CertFor(f, impl.MaxMarks)
		if v, _ := impl.CheckSound(f, impl.MaxMarks); ok != (v.Code == impl.VdSound) {
			t.Fatalf("%v is told %v, its certificate %v", f, v, ok)
		}
		if !ok {
			continue
		}
		if code, is := impl.CheckCert(f, c); code != 0 || !is {
			t.Fatalf("CheckCert of %v, its own %v: %v %v", f, c, code, is)
		}
		taken++
		for k := range c.Marks {
			less, ok := impl.DropMark(c, k)
			code, is := impl.CheckCert(f, less)
			if !ok || !is || code == 0 || code != codePlainly(f, less) {
				t.Fatalf("CheckCert of %v, its own without mark %d, %v: %v %v", f, k, less, code, is)
			}
			drops[code]++
		}
	}
	if taken < 500 || drops[2] < 500 || drops[3] < 500 {
		t.Errorf("only %d taken, %v without a mark", taken, drops)
	}
}

// someCert is near to a certificate: changed at some places.
func someCert(d *dice, f impl.Flow, c impl.Cert) impl.Cert {
	c = cloneCert(c)
	for range d.below(4) {
		k := d.below(len(c.Marks))
		switch d.below(7) {
		case 0:
			c.Steps[k] = max(c.Steps[k]+d.below(3)-1, 0)
		case 1:
			c.Ranks[k] = max(c.Ranks[k]+d.below(3)-1, 0)
		case 2:
			c.Steps[k], c.Ranks[k] = d.below(9), d.below(9)
		case 3:
			c = added(c, someMark(d, f.Net.Places, 1), d.below(9), d.below(9))
		case 4:
			more := slices.Clone(c.Marks[k])
			more[d.below(len(more))]++
			c = added(c, more, c.Steps[k], c.Ranks[k]+d.below(2))
		case 5:
			if len(c.Marks) > 1 {
				c = dropped(c, k)
			}
		case 6:
			for i := range c.Steps {
				c.Steps[i] = 3 * c.Steps[i]
				c.Ranks[i] = 2*c.Ranks[i] + d.below(2)
			}
		}
	}
	return c
}

// closed has all marks more that can be come to from those of a certificate, as long as they are few, with numbers that go up step by step.
func closed(f impl.Flow, c impl.Cert) impl.Cert {
	c = cloneCert(c)
	for i := 0; i < len(c.Marks) && len(c.Marks) < 60; i++ {
		for _, t := range f.Net.Trans {
			behind, ok := firePlainly(t, c.Marks[i])
			if ok && numberPlainly(impl.Space{Marks: c.Marks}, behind) < 0 {
				c = added(c, behind, c.Steps[i]+1, max(c.Ranks[i]-1, 0))
				i = -1
				break
			}
		}
	}
	return c
}

// Promise 9, whoever made it: what is taken is of a sound flow, and of none that a verdict shows to be unsound.
func TestTakenCertsAreOfSoundFlows(t *testing.T) {
	d := dice(96)
	codes, others := map[int]int{}, 0
	for range 4000 {
		f := someSoundFlow(&d)
		s, code := explorePlainly(f.Net, startOf(f), 60)
		if code != impl.SpAll {
			continue
		}
		v, _ := impl.CheckSound(f, impl.MaxMarks)
		own := certOf(f, s)
		for range 5 {
			c := someCert(&d, f, own)
			if d.below(4) == 0 {
				c = closed(f, c)
			}
			code, ok := impl.CheckCert(f, c)
			if !ok || code != codePlainly(f, c) {
				t.Fatalf("CheckCert of %v, %v: %v %v, not %v", f, c, code, ok, codePlainly(f, c))
			}
			codes[code]++
			if code != 0 {
				continue
			}
			if !sameCert(c, own) {
				others++
			}
			shown, _ := impl.ShowsUnsound(f, v, impl.MaxMarks)
			if v.Code != impl.VdSound || shown || verdictPlainly(f, len(c.Marks)).Code != impl.VdSound {
				t.Fatalf("%v is told %v, but %v is taken", f, v, c)
			}
		}
	}
	for code, least := range []int{1000, 50, 100, 300, 300, 300, 50, 50} {
		if code != 1 && codes[code] < least {
			t.Errorf("only %v", codes)
		}
	}
	if others < 300 {
		t.Errorf("only %d that are not its own are taken", others)
	}
}

// All certificates of few marks and small numbers, whoever made them, of small flows, sound and unsound.
func TestAllSmallCerts(t *testing.T) {
	flows := []impl.Flow{
		rowFlow(0, 1),
		flowOf(2, stepOf([]int{0}, 1), stepOf([]int{0}, 1)),
		rowFlow(0, 2, 1),
		flowWith(3, stepOf([]int{2}, 2)),
		flowWith(3, stepOf([]int{0}, 1, 2)),
		flowWith(3, stepOf([]int{0, 2}, 1)),
		flowOf(3, stepOf([]int{0, 2}, 1, 2)),
		flowOf(3, emptying([]int{0}, []int{2}, 2), emptying([]int{2}, []int{2}, 1)),
	}
	taken := 0
	for _, f := range flows {
		sound := verdictPlainly(f, impl.MaxMarks).Code == impl.VdSound
		any := false
		for _, marks := range someOfEach(marksUpTo(f.Net.Places, 1), 3) {
			numbers := allNumbers(len(marks), 3)
			for _, steps := range numbers {
				for _, ranks := range numbers {
					c := impl.Cert{Marks: marks, Steps: steps, Ranks: ranks}
					code, ok := impl.CheckCert(f, c)
					if !ok || code != codePlainly(f, c) {
						t.Fatalf("CheckCert of %v, %v: %v %v, not %v", f, c, code, ok, codePlainly(f, c))
					}
					if code == 0 {
						any = true
						taken++
					}
				}
			}
		}
		if any != sound {
			t.Errorf("%v is sound: %v, a certificate is taken: %v", f, sound, any)
		}
	}
	if taken < 10 {
		t.Errorf("only %d taken", taken)
	}
}

// someOfEach has all lists of one up to so many marks of a list, in its order.
func someOfEach(l [][]int, most int) [][][]int {
	slices.SortFunc(l, slices.Compare[[]int])
	var out [][][]int
	for _, numbers := range listsOf(len(l)) {
		if len(numbers) < 1 || len(numbers) > most {
			continue
		}
		var marks [][]int
		for _, i := range numbers {
			marks = append(marks, l[i])
		}
		out = append(out, marks)
	}
	return out
}

// allNumbers has all lists of so many numbers below one.
func allNumbers(many int, below int) [][]int {
	lists := [][]int{nil}
	for range many {
		var longer [][]int
		for _, l := range lists {
			for n := range below {
				longer = append(longer, append(slices.Clone(l), n))
			}
		}
		lists = longer
	}
	return lists
}

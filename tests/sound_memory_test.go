package tests

import (
	"slices"
	"testing"

	"loop.example/g00662/impl"
)

// guardedVerdict is the same verdict, with guards behind its list.
func guardedVerdict(v impl.Verdict) impl.Verdict {
	v.Seq = guardedList(v.Seq)
	return v
}

// guardedCert is the same certificate, with guards behind all its lists.
func guardedCert(c impl.Cert) impl.Cert {
	return impl.Cert{Marks: guardedRows(c.Marks), Steps: guardedList(c.Steps), Ranks: guardedList(c.Ranks)}
}

func untouchedVerdict(t *testing.T, what string, v impl.Verdict, was impl.Verdict) {
	t.Helper()
	untouched(t, what, v.Seq, was.Seq)
}

func untouchedCert(t *testing.T, what string, c impl.Cert, was impl.Cert) {
	t.Helper()
	untouchedRows(t, what, c.Marks, was.Marks)
	untouched(t, what, c.Steps, was.Steps)
	untouched(t, what, c.Ranks, was.Ranks)
}

// listsOfCert has all the lists of numbers of a certificate.
func listsOfCert(c *impl.Cert) []*[]int {
	lists := []*[]int{&c.Steps, &c.Ranks}
	for i := range c.Marks {
		lists = append(lists, &c.Marks[i])
	}
	return lists
}

// certOwnMemory asks for a certificate again and again, and writes over one of its lists each time, up to its capacity, and then over all: no other one is changed by it, and no argument, as untouched holds.
func certOwnMemory(t *testing.T, what string, want impl.Cert, ask func() (impl.Cert, bool), untouched func()) {
	t.Helper()
	for i := range listsOfCert(&want) {
		c, ok := ask()
		if !ok || !sameCert(c, want) {
			t.Fatalf("%s: %v %v", what, c, ok)
		}
		kept := cloneCert(c)
		scribble(*listsOfCert(&c)[i])
		*listsOfCert(&c)[i], *listsOfCert(&kept)[i] = nil, nil
		if !sameCert(c, kept) {
			t.Errorf("%s: lists of an answer share memory: %v, it was %v", what, c, kept)
		}
		scribble(c.Steps)
		scribble(c.Ranks)
		scribbleRows(c.Marks)
		untouched()
	}
}

// Promise 22 at wrong flows: the zero answer, no panic, nothing written.
func TestSoundOfWrongFlows(t *testing.T) {
	told := []impl.Verdict{{}, toldSound, clause(1), clause(2, 0, 1), deadAt(0), deadAt(1)}
	for _, w := range wrongFlows() {
		f, was := guardedFlow(w.f), cloneFlow(w.f)
		own := rowCert()
		for _, v := range told {
			guarded := guardedVerdict(v)
			quietly(t, w.what, func() {
				for _, budget := range []int{1, 3, impl.MaxMarks, 0} {
					zeroOfSound(t, w.what, f, guarded, budget)
				}
			})
			untouchedVerdict(t, w.what, guarded, v)
		}
		for _, c := range []impl.Cert{own, {}, dropped(own, 1), withSteps(own, 1)} {
			guarded := guardedCert(c)
			quietly(t, w.what, func() { zeroOfCert(t, w.what, f, guarded) })
			untouchedCert(t, w.what, guarded, c)
		}
		untouchedNet(t, w.what, f.Net, was.Net)
	}
}

// A good flow with a budget that is none.
func TestSoundWithWrongBudgets(t *testing.T) {
	left := flowOf(4, stepOf([]int{0}, 2, 3), stepOf([]int{2}, 1), stepOf([]int{2, 3}, 1))
	for _, was := range []impl.Flow{rowFlow(0, 2, 1), left, bitsFlow(0), unsoundCases()[0].f} {
		for _, budget := range wrongBudgets() {
			for _, v := range []impl.Verdict{toldSound, clause(1), clause(1, 0, 1), clause(2, 0, 1), deadAt(1), {}} {
				f, guarded := guardedFlow(was), guardedVerdict(v)
				quietly(t, "a wrong budget", func() { zeroOfSound(t, "a wrong budget", f, guarded, budget) })
				untouchedNet(t, "a wrong budget", f.Net, was.Net)
				untouchedVerdict(t, "a wrong budget", guarded, v)
			}
		}
	}
}

// Promise 22 at good arguments: what is told writes nothing, and is told again.
func TestVerdictsWriteNothing(t *testing.T) {
	for _, c := range append(soundCases(), unsoundCases()...) {
		f := guardedFlow(c.f)
		for range 2 {
			v, ok := impl.CheckSound(f, impl.MaxMarks)
			if !ok || !sameVerdict(v, c.want) {
				t.Errorf("CheckSound, %s: %v %v", c.what, v, ok)
			}
			scribble(v.Seq)
			untouchedNet(t, "CheckSound", f.Net, c.f.Net)
			guarded := guardedVerdict(c.want)
			if is, ok := impl.ShowsUnsound(f, guarded, impl.MaxMarks); !ok || is != (c.want.Code == impl.VdUnsound) {
				t.Errorf("ShowsUnsound, %s: %v %v", c.what, is, ok)
			}
			untouchedNet(t, "ShowsUnsound", f.Net, c.f.Net)
			untouchedVerdict(t, "ShowsUnsound", guarded, c.want)
			if is, ok := impl.IsSafe(f, impl.MaxMarks); !ok || is != c.safe {
				t.Errorf("IsSafe, %s: %v %v", c.what, is, ok)
			}
			untouchedNet(t, "IsSafe", f.Net, c.f.Net)
		}
	}
}

// Verdicts of all kinds that show nothing are not written into either.
func TestWrongVerdictsWriteNothing(t *testing.T) {
	was := flowOf(5, stepOf([]int{0}, 2), stepOf([]int{2}, 1), stepOf([]int{0}, 2, 3), stepOf([]int{0}, 4), stepOf([]int{3, 4}, 1))
	for _, v := range []impl.Verdict{{}, clause(1), clause(1, 9), clause(1, 3, 3), clause(1, filled(100, 0)...), clause(2, -1), clause(2, 0, 1), clause(3, 3), clause(4, 3), {Code: impl.VdOut, Seq: []int{3}}, {Code: impl.VdSound, Clause: 1, Seq: []int{3}, Trans: 4}} {
		f, guarded := guardedFlow(was), guardedVerdict(v)
		quietly(t, "a verdict", func() {
			if is, ok := impl.ShowsUnsound(f, guarded, impl.MaxMarks); is || !ok {
				t.Errorf("ShowsUnsound of %v: %v %v", v, is, ok)
			}
		})
		untouchedNet(t, "a verdict", f.Net, was.Net)
		untouchedVerdict(t, "a verdict", guarded, v)
	}
}

func TestCertsAreNew(t *testing.T) {
	for _, was := range []impl.Flow{rowFlow(0, 1), rowFlow(3, 0, 4, 2, 1, 5), twiceFlow(), counterFlow(3)} {
		f := guardedFlow(was)
		certOwnMemory(t, "CertFor", certFor(was), func() (impl.Cert, bool) { return impl.CertFor(f, impl.MaxMarks) }, func() { untouchedNet(t, "CertFor", f.Net, was.Net) })
	}
	for _, c := range unsoundCases() {
		f := guardedFlow(c.f)
		if got, ok := impl.CertFor(f, impl.MaxMarks); ok || !sameCert(got, impl.Cert{}) {
			t.Errorf("%s: %v %v", c.what, got, ok)
		}
		untouchedNet(t, c.what, f.Net, c.f.Net)
	}
}

func TestDroppedCertsAreNew(t *testing.T) {
	odd := impl.Cert{Marks: [][]int{{5, -3}, nil, {1}}, Steps: []int{-1, 7, 0}, Ranks: []int{4, 4, -4}}
	for _, was := range []impl.Cert{rowCert(), odd, certFor(counterFlow(3))} {
		c := guardedCert(was)
		for k := range was.Marks {
			certOwnMemory(t, "DropMark", dropped(was, k), func() (impl.Cert, bool) { return impl.DropMark(c, k) }, func() { untouchedCert(t, "DropMark", c, was) })
		}
		for _, k := range []int{-1, len(was.Marks)} {
			if got, ok := impl.DropMark(c, k); ok || !sameCert(got, impl.Cert{}) {
				t.Errorf("DropMark %d: %v %v", k, got, ok)
			}
			untouchedCert(t, "DropMark", c, was)
		}
	}
}

// A number of marks that is cut by a length is not looked at beyond it.
func TestCertsThatAreCut(t *testing.T) {
	own := rowCert()
	cut := impl.Cert{Marks: own.Marks[:2], Steps: own.Steps[:2], Ranks: own.Ranks[:2]}
	checkCert(t, rowFlow(0, 2, 1), cut, 2)
	checkCert(t, rowFlow(0, 2, 1), impl.Cert{Marks: own.Marks[:0], Steps: own.Steps[:0], Ranks: own.Ranks[:0]}, 1)
	if c, ok := impl.DropMark(cut, 2); ok || !sameCert(c, impl.Cert{}) {
		t.Error("DropMark behind the length", c, ok)
	}
	if c, ok := impl.DropMark(cut, 0); !ok || !sameCert(c, impl.Cert{Marks: [][]int{{0, 1, 0}}, Steps: []int{2}, Ranks: []int{0}}) {
		t.Error("DropMark", c, ok)
	}
}

// Certificates of all kinds, taken and not, are not written into.
func TestCheckCertWritesNothing(t *testing.T) {
	for _, c := range slices.Concat(certCasesOfLists(), certCasesOfMarks(), certCasesOfNumbers(), certCasesOfSeveral()) {
		f, guarded := guardedFlow(c.f), guardedCert(c.c)
		quietly(t, c.what, func() {
			for range 2 {
				if code, ok := impl.CheckCert(f, guarded); code != c.want || !ok {
					t.Errorf("%s: %v %v", c.what, code, ok)
				}
			}
		})
		untouchedNet(t, c.what, f.Net, c.f.Net)
		untouchedCert(t, c.what, guarded, c.c)
	}
}

// Lists of an argument may share memory among themselves; those of the answer share none.
func TestSoundOfListsThatShare(t *testing.T) {
	memory := []int{0, 1, 0, 0}
	f := flowOf(2, impl.Trans{In: memory[:1], Out: memory[1:2]}, impl.Trans{In: memory[:1], Out: memory[1:2]})
	c := impl.Cert{Marks: [][]int{memory[:2], memory[1:3]}, Steps: memory[1:3], Ranks: memory[:2]}
	if code, ok := impl.CheckCert(f, c); code != 0 || !ok {
		t.Error("CheckCert", code, ok)
	}
	for range 2 {
		less, ok := impl.DropMark(c, 1)
		if !ok || !sameCert(less, impl.Cert{Marks: [][]int{{0, 1}}, Steps: []int{1}, Ranks: []int{0}}) {
			t.Error("DropMark", less, ok)
		}
		scribble(less.Steps)
		scribble(less.Ranks)
		scribbleRows(less.Marks)
		if is, ok := impl.ShowsUnsound(f, impl.Verdict{Code: impl.VdUnsound, Clause: 2, Seq: memory[:1]}, impl.MaxMarks); is || !ok {
			t.Error("ShowsUnsound", is, ok)
		}
	}
	certOwnMemory(t, "CertFor", certFor(f), func() (impl.Cert, bool) { return impl.CertFor(f, impl.MaxMarks) }, func() {
		if !slices.Equal(memory, []int{0, 1, 0, 0}) {
			t.Error("an argument was changed", memory)
		}
	})
}

// The same is answered each time, whatever the order in which a map is gone through.
func TestSoundIsToldInOneOrder(t *testing.T) {
	sound, stuck := bitsFlow(0), stuckAt(6, 50)
	want, told := certFor(sound), verdictPlainly(stuck, impl.MaxMarks)
	for range 30 {
		if c, ok := impl.CertFor(sound, impl.MaxMarks); !ok || !sameCert(c, want) {
			t.Fatalf("CertFor: %v %v", c, ok)
		}
		if v, ok := impl.CheckSound(stuck, impl.MaxMarks); !ok || !sameVerdict(v, told) {
			t.Fatalf("CheckSound: %v %v", v, ok)
		}
	}
}

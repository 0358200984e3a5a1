package tests

import (
	"math"
	"slices"
	"testing"

	"loop.example/g00662/impl"
)

// startOf and endOf are the marks of a good flow by their words.
func startOf(f impl.Flow) []int { return oneOn(f, f.From, true) }

func endOf(f impl.Flow) []int { return oneOn(f, f.To, true) }

// turnedSpace has all arcs the other way round, so that what is told of ways to a mark is told of ways from it.
func turnedSpace(s impl.Space) impl.Space {
	back := impl.Space{Marks: s.Marks}
	for _, a := range s.Arcs {
		back.Arcs = append(back.Arcs, impl.Arc{From: a.To, By: a.By, To: a.From})
	}
	return back
}

func exceedsPlainly(m []int, end []int) bool {
	return coversPlainly(m, end) && !slices.Equal(m, end)
}

// noWayFrom is far from any number of arcs that there can be.
const noWayFrom = math.MaxInt / 2

// ranksPlainly has for each mark how many arcs at least lead from it to end.
func ranksPlainly(f impl.Flow, s impl.Space) []int {
	end := numberPlainly(s, endOf(f))
	if end < 0 {
		return filled(len(s.Marks), noWayFrom)
	}
	return farPlainly(s, end)
}

// hurtsPlainly has of a space that is told whole, clause by clause, the first of the marks that hurts it, and the first transition; -1 where none does.
func hurtsPlainly(f impl.Flow, s impl.Space) [3]int {
	hurts := [3]int{-1, -1, -1}
	hurts[0] = slices.IndexFunc(ranksPlainly(f, s), func(far int) bool { return far >= noWayFrom })
	hurts[1] = slices.IndexFunc(s.Marks, func(m []int) bool { return exceedsPlainly(m, endOf(f)) })
	if dead := deadTransPlainly(f.Net, s); len(dead) > 0 {
		hurts[2] = dead[0]
	}
	return hurts
}

// verdictPlainly is CheckSound by its words, of a good flow and a budget as said.
func verdictPlainly(f impl.Flow, budget int) impl.Verdict {
	s, code := explorePlainly(f.Net, startOf(f), budget)
	if code != impl.SpAll {
		return impl.Verdict{Code: impl.VdOut}
	}
	hurts := hurtsPlainly(f, s)
	for clause, number := range hurts[:2] {
		if number < 0 {
			continue
		}
		way, ok := wayPlainly(s, s.Marks[number])
		if !ok {
			return impl.Verdict{Code: impl.VdOut}
		}
		return impl.Verdict{Code: impl.VdUnsound, Clause: clause + 1, Seq: way}
	}
	if hurts[2] >= 0 {
		return impl.Verdict{Code: impl.VdUnsound, Clause: 3, Trans: hurts[2]}
	}
	return impl.Verdict{Code: impl.VdSound}
}

// showsPlainly is ShowsUnsound by its words, of a good flow and a budget as said.
func showsPlainly(f impl.Flow, v impl.Verdict, budget int) bool {
	if v.Code != impl.VdUnsound {
		return false
	}
	if v.Clause == 3 {
		s, code := explorePlainly(f.Net, startOf(f), budget)
		return len(v.Seq) == 0 && code == impl.SpAll && slices.Contains(deadTransPlainly(f.Net, s), v.Trans)
	}
	behind, many, ok := fireAllPlainly(f.Net, startOf(f), v.Seq)
	if !ok || many != len(v.Seq) || v.Trans != 0 {
		return false
	}
	if v.Clause == 2 {
		return exceedsPlainly(behind, endOf(f))
	}
	s, code := explorePlainly(f.Net, behind, budget)
	return v.Clause == 1 && code == impl.SpAll && numberPlainly(s, endOf(f)) < 0
}

// certOf has the marks of a space, in order, how far each is from start, and how far end is from it; whoever asks for that where end can't be come to gets a great number.
func certOf(f impl.Flow, s impl.Space) impl.Cert {
	steps, ranks := farPlainly(turnedSpace(s), 0), ranksPlainly(f, s)
	order := numbersTo(len(s.Marks))
	slices.SortFunc(order, func(a int, b int) int { return slices.Compare(s.Marks[a], s.Marks[b]) })
	var c impl.Cert
	for _, i := range order {
		c.Marks = append(c.Marks, slices.Clone(s.Marks[i]))
		c.Steps = append(c.Steps, steps[i])
		c.Ranks = append(c.Ranks, ranks[i])
	}
	return c
}

// certPlainly is CertFor by its words, of a good flow and a budget as said.
func certPlainly(f impl.Flow, budget int) (impl.Cert, bool) {
	if verdictPlainly(f, budget).Code != impl.VdSound {
		return impl.Cert{}, false
	}
	s, _ := explorePlainly(f.Net, startOf(f), budget)
	return certOf(f, s), true
}

// wrongListsPlainly tells whether the lists of a certificate are not as they should be.
func wrongListsPlainly(f impl.Flow, c impl.Cert) bool {
	many := len(c.Marks)
	if many < 1 || many > impl.MaxMarks || len(c.Steps) != many || len(c.Ranks) != many {
		return true
	}
	for i, m := range c.Marks {
		if len(m) != f.Net.Places || slices.Min(m) < 0 || slices.Max(m) > impl.MaxTokens {
			return true
		}
		if i > 0 && slices.Compare(c.Marks[i-1], m) >= 0 {
			return true
		}
	}
	return slices.Min(c.Steps) < 0 || slices.Min(c.Ranks) < 0
}

// codePlainly is CheckCert by its words, of a good flow.
func codePlainly(f impl.Flow, c impl.Cert) int {
	if wrongListsPlainly(f, c) {
		return 1
	}
	numbers := map[string]int{}
	for i, m := range c.Marks {
		numbers[keyOf(m)] = i
	}
	start, among := numbers[keyOf(startOf(f))]
	if !among {
		return 2
	}
	var arcs []impl.Arc
	for i, m := range c.Marks {
		for by, t := range f.Net.Trans {
			if !enabledPlainly(t, m) {
				continue
			}
			behind, ok := firePlainly(t, m)
			to, among := numbers[keyOf(behind)]
			if !ok || !among {
				return 3
			}
			arcs = append(arcs, impl.Arc{From: i, By: by, To: to})
		}
	}
	end, ends := numbers[keyOf(endOf(f))]
	for i := range c.Marks {
		met := slices.ContainsFunc(arcs, func(a impl.Arc) bool { return a.To == i && c.Steps[a.From] < c.Steps[i] })
		if i == start && c.Steps[i] != 0 || i != start && !met {
			return 4
		}
	}
	for i := range c.Marks {
		leads := slices.ContainsFunc(arcs, func(a impl.Arc) bool { return a.From == i && c.Ranks[a.To] < c.Ranks[i] })
		if !(ends && i == end) && !leads {
			return 5
		}
	}
	exceeds := slices.ContainsFunc(c.Marks, func(m []int) bool { return exceedsPlainly(m, endOf(f)) })
	if exceeds || !ends || c.Ranks[end] != 0 {
		return 6
	}
	if len(deadTransPlainly(f.Net, impl.Space{Arcs: arcs})) > 0 {
		return 7
	}
	return 0
}

func safePlainly(s impl.Space) bool {
	return !slices.ContainsFunc(s.Marks, func(m []int) bool { return slices.Max(m) > 1 })
}

func sameVerdict(a, b impl.Verdict) bool {
	return a.Code == b.Code && a.Clause == b.Clause && slices.Equal(a.Seq, b.Seq) && a.Trans == b.Trans
}

func sameCert(a, b impl.Cert) bool {
	return sameRows(a.Marks, b.Marks) && slices.Equal(a.Steps, b.Steps) && slices.Equal(a.Ranks, b.Ranks)
}

func cloneCert(c impl.Cert) impl.Cert {
	return impl.Cert{Marks: cloneRows(c.Marks), Steps: slices.Clone(c.Steps), Ranks: slices.Clone(c.Ranks)}
}

// dropped is DropMark by its words, of arguments as said.
func dropped(c impl.Cert, k int) impl.Cert {
	c = cloneCert(c)
	return impl.Cert{Marks: slices.Delete(c.Marks, k, k+1), Steps: slices.Delete(c.Steps, k, k+1), Ranks: slices.Delete(c.Ranks, k, k+1)}
}

// added has one mark more, where it stands in order, or not where it is there already.
func added(c impl.Cert, m []int, step int, rank int) impl.Cert {
	c = cloneCert(c)
	k, there := slices.BinarySearchFunc(c.Marks, m, slices.Compare[[]int])
	if there {
		return c
	}
	return impl.Cert{Marks: slices.Insert(c.Marks, k, m), Steps: slices.Insert(c.Steps, k, step), Ranks: slices.Insert(c.Ranks, k, rank)}
}

// withSteps and withRanks have other numbers.
func withSteps(c impl.Cert, steps ...int) impl.Cert {
	c = cloneCert(c)
	c.Steps = steps
	return c
}

func withRanks(c impl.Cert, ranks ...int) impl.Cert {
	c = cloneCert(c)
	c.Ranks = ranks
	return c
}

func withMarks(c impl.Cert, marks ...[]int) impl.Cert {
	c = cloneCert(c)
	c.Marks = marks
	return c
}

// flowOf goes from place 0 to place 1.
func flowOf(places int, trans ...impl.Trans) impl.Flow {
	return impl.Flow{Net: netOf(places, trans...), From: 0, To: 1}
}

// emptying is a transition that empties a place.
func emptying(in []int, reset []int, out ...int) impl.Trans {
	return impl.Trans{In: in, Out: out, Reset: reset}
}

// bitsFlow has just 400 marks: three controls one behind the other under which any of 7 bits may stand, which are set and unset under the first, then controls at which there are 3, 2 and 1 of them; start and end. With more it has so many marks more, in a row ahead of these.
func bitsFlow(more int) impl.Flow {
	const bits, first = 7, 8
	f := impl.Flow{From: 0, To: 1}
	f.Net.Places = first + bits + more
	at := 0
	for i := range more {
		f.Net.Trans = append(f.Net.Trans, stepOf([]int{at}, first+bits+i))
		at = first + bits + i
	}
	f.Net.Trans = append(f.Net.Trans, stepOf([]int{at}, 2))
	for b := range bits {
		f.Net.Trans = append(f.Net.Trans, emptying([]int{2}, []int{first + b}, 2, first+b), stepOf([]int{2, first + b}, 2))
	}
	emptied := [][]int{nil, nil, numbersTo(4), {4}, {5}, {6}}
	for i, l := range emptied {
		to := i + 3
		if i == len(emptied)-1 {
			to = 1
		}
		for k := range l {
			l[k] += first
		}
		f.Net.Trans = append(f.Net.Trans, emptying([]int{i + 2}, l, to))
	}
	return f
}

// counterFlow counts up by one from 0 with so many bits, each of which has a place for 0 and one for 1, and is done at the greatest number: its marks are one row.
func counterFlow(bits int) impl.Flow {
	f := flowOf(2+2*bits, impl.Trans{In: []int{0}, Out: countOf(bits, 0)})
	for b := range bits {
		var in, out []int
		for lower := range b {
			in, out = append(in, 3+2*lower), append(out, 2+2*lower)
		}
		f.Net.Trans = append(f.Net.Trans, impl.Trans{In: append(in, 2+2*b), Out: append(out, 3+2*b)})
	}
	f.Net.Trans = append(f.Net.Trans, stepOf(countOf(bits, 1<<bits-1), 1))
	return f
}

// countOf has the places that a number is told by.
func countOf(bits int, number int) []int {
	var places []int
	for b := range bits {
		places = append(places, 2+2*b+number>>b&1)
	}
	return places
}

// stuckAt is counterFlow with a way out of one number to where nothing leads on.
func stuckAt(bits int, number int) impl.Flow {
	f := counterFlow(bits)
	stuck := f.Net.Places
	f.Net.Places++
	f.Net.Trans = append(f.Net.Trans, stepOf(countOf(bits, number), stuck), stepOf([]int{2, stuck}, 1))
	return f
}

// twiceFlow is sound, and has a place that may have two tokens.
func twiceFlow() impl.Flow {
	return flowOf(7, stepOf([]int{0}, 2, 3, 5), stepOf([]int{2}, 4), stepOf([]int{3}, 4), stepOf([]int{4, 5}, 6), stepOf([]int{4, 6}, 1))
}

// grownFlow is a flow that is sound by the way it is made, but for the places that it empties where these are asked for: transitions are cut in two, stand there twice, places get another one beside them, and a way round.
func grownFlow(d *dice, growth int, resets bool) impl.Flow {
	f := rowFlow(0, 1)
	if d.below(8) == 0 {
		f = twiceFlow()
	}
	for range growth {
		k, p, next := d.below(len(f.Net.Trans)), d.below(f.Net.Places), f.Net.Places
		if next+1 > impl.MaxPlaces || len(f.Net.Trans)+2 > impl.MaxTrans {
			break
		}
		kind := d.below(6)
		if kind != 0 && p < 2 {
			kind = 1
		}
		switch kind {
		case 0:
			f.Net.Trans = append(f.Net.Trans, impl.Trans{In: []int{next}, Out: f.Net.Trans[k].Out})
			f.Net.Trans[k].Out = []int{next}
			f.Net.Places++
		case 1:
			if d.below(3) == 0 {
				f.Net.Trans = append(f.Net.Trans, cloneNet(f.Net).Trans[k])
			}
		case 2, 3:
			f.Net = beside(f.Net, p)
		case 4:
			f.Net.Trans = append(f.Net.Trans, stepOf([]int{p}, next), stepOf([]int{next}, p))
			f.Net.Places++
		case 5:
			if resets {
				f.Net.Trans[k].Reset = []int{p}
			}
		}
	}
	return renumbered(d, f)
}

// beside gives a place another one that is taken from and given to just with it.
func beside(n impl.Net, place int) impl.Net {
	n = cloneNet(n)
	for i, t := range n.Trans {
		if slices.Contains(t.In, place) {
			n.Trans[i].In = append(t.In, n.Places)
		}
		if slices.Contains(t.Out, place) {
			n.Trans[i].Out = append(t.Out, n.Places)
		}
	}
	n.Places++
	return n
}

// renumbered has its places and its transitions in any order.
func renumbered(d *dice, f impl.Flow) impl.Flow {
	order := shuffled(d, f.Net.Places)
	moved := func(l []int) []int {
		var out []int
		for _, p := range l {
			out = append(out, order[p])
		}
		slices.Sort(out)
		return out
	}
	g := impl.Flow{Net: impl.Net{Places: f.Net.Places}, From: order[f.From], To: order[f.To]}
	for _, i := range shuffled(d, len(f.Net.Trans)) {
		t := f.Net.Trans[i]
		g.Net.Trans = append(g.Net.Trans, impl.Trans{In: moved(t.In), Out: moved(t.Out), Reset: moved(t.Reset)})
	}
	return g
}

// someSoundFlow is a flow that is sound, or nearly so, or of any kind.
func someSoundFlow(d *dice) impl.Flow {
	f := grownFlow(d, 2+d.below(16), d.below(3) == 0)
	switch d.below(6) {
	case 0, 1:
		return someFlow(d, 2+d.below(6), d.below(6), d.below(2) == 0)
	case 2, 3:
		for range 1 + d.below(20) {
			g := cloneFlow(f)
			spoil(d, &g)
			if goodFlowPlainly(g) {
				f = g
			}
		}
	}
	return f
}

// smallFlows has all good flows from place 0 to place 1 of three places with one transition, two or three.
func smallFlows() []impl.Flow {
	var trans []impl.Trans
	for _, t := range transOf(3) {
		if !slices.Contains(t.In, 1) && !slices.Contains(t.Out, 0) && len(t.Out) > 0 && len(without(t.Reset, 2)) == 0 {
			trans = append(trans, t)
		}
	}
	var flows []impl.Flow
	add := func(l ...impl.Trans) {
		if f := flowOf(3, l...); goodFlowPlainly(f) {
			flows = append(flows, f)
		}
	}
	for _, a := range trans {
		add(a)
		for _, b := range trans {
			add(a, b)
			for _, c := range trans {
				add(a, b, c)
			}
		}
	}
	return flows
}

// zeroOfSound fails where a function of the chapter tells something of a flow and a budget.
func zeroOfSound(t *testing.T, what string, f impl.Flow, v impl.Verdict, budget int) {
	t.Helper()
	if v, ok := impl.CheckSound(f, budget); !sameVerdict(v, impl.Verdict{}) || ok {
		t.Errorf("CheckSound, %s: %v %v", what, v, ok)
	}
	if is, ok := impl.ShowsUnsound(f, v, budget); is || ok {
		t.Errorf("ShowsUnsound, %s: %v %v", what, is, ok)
	}
	if c, ok := impl.CertFor(f, budget); !sameCert(c, impl.Cert{}) || ok {
		t.Errorf("CertFor, %s: %v %v", what, c, ok)
	}
	if is, ok := impl.IsSafe(f, budget); is || ok {
		t.Errorf("IsSafe, %s: %v %v", what, is, ok)
	}
}

// zeroOfCert fails where CheckCert tells something.
func zeroOfCert(t *testing.T, what string, f impl.Flow, c impl.Cert) {
	t.Helper()
	if code, ok := impl.CheckCert(f, c); code != 0 || ok {
		t.Errorf("CheckCert, %s: %v %v", what, code, ok)
	}
}

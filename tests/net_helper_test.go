package tests

import (
	"math"
	"slices"
	"testing"

	"loop.example/g00662/impl"
)

// listsOf has all rising lists of some places, the empty one first.
func listsOf(places int) [][]int {
	l := [][]int{nil}
	for p := range places {
		for _, ahead := range slices.Clone(l) {
			l = append(l, append(slices.Clone(ahead), p))
		}
	}
	return l
}

// transOf has all transitions that a good net of some places may have.
func transOf(places int) []impl.Trans {
	var l []impl.Trans
	lists := listsOf(places)
	for _, in := range lists[1:] {
		for _, out := range lists {
			for _, reset := range lists {
				l = append(l, impl.Trans{In: in, Out: out, Reset: reset})
			}
		}
	}
	return l
}

// transWithoutResets has all transitions of some places that empty none.
func transWithoutResets(places int) []impl.Trans {
	return slices.DeleteFunc(transOf(places), func(t impl.Trans) bool { return len(t.Reset) > 0 })
}

// smallNets has all nets of up to so many places with up to two transitions that empty nothing.
func smallNets(most int) []impl.Net {
	var nets []impl.Net
	for places := 1; places <= most; places++ {
		nets = append(nets, netOf(places))
		all := transWithoutResets(places)
		for _, a := range all {
			nets = append(nets, netOf(places, a))
			for _, b := range all {
				nets = append(nets, netOf(places, a, b))
			}
		}
	}
	return nets
}

// stepOf is a transition that empties nothing.
func stepOf(in []int, out ...int) impl.Trans {
	return impl.Trans{In: in, Out: out}
}

// netOf is a net of such transitions, or of others.
func netOf(places int, trans ...impl.Trans) impl.Net {
	return impl.Net{Places: places, Trans: trans}
}

// someList has each of some places about once in so many.
func someList(d *dice, places int, onceIn int) []int {
	var l []int
	for p := range places {
		if d.below(onceIn) == 0 {
			l = append(l, p)
		}
	}
	return l
}

// someNet is a good net of any kind; without resets where that is asked for.
func someNet(d *dice, places int, trans int, resets bool) impl.Net {
	n := impl.Net{Places: places}
	for range trans {
		t := impl.Trans{In: someList(d, places, 4), Out: someList(d, places, 3)}
		if len(t.In) == 0 {
			t.In = []int{d.below(places)}
		}
		if resets && d.below(2) == 0 {
			t.Reset = someList(d, places, 3)
		}
		n.Trans = append(n.Trans, t)
	}
	return n
}

func someMark(d *dice, places int, most int) []int {
	m := make([]int, places)
	for p := range m {
		m[p] = d.below(most + 1)
	}
	return m
}

func someSeq(d *dice, length int, trans int) []int {
	seq := make([]int, length)
	for i := range seq {
		seq[i] = d.below(trans)
	}
	return seq
}

func enabledPlainly(t impl.Trans, m []int) bool {
	for _, p := range t.In {
		if m[p] == 0 {
			return false
		}
	}
	return true
}

// firePlainly is Fire by its words, of a transition that a good net has.
func firePlainly(t impl.Trans, m []int) ([]int, bool) {
	if !enabledPlainly(t, m) {
		return nil, false
	}
	behind := slices.Clone(m)
	for _, p := range t.In {
		behind[p]--
	}
	for _, p := range t.Reset {
		behind[p] = 0
	}
	for _, p := range t.Out {
		behind[p]++
	}
	if slices.Max(behind) > impl.MaxTokens {
		return nil, false
	}
	return behind, true
}

// fireAllPlainly is FireAll by its words, of a good net and a good mark of it.
func fireAllPlainly(n impl.Net, m []int, seq []int) ([]int, int, bool) {
	if len(seq) > impl.MaxSeq {
		return nil, 0, false
	}
	for _, t := range seq {
		if t < 0 || t >= len(n.Trans) {
			return nil, 0, false
		}
	}
	for i, t := range seq {
		behind, ok := firePlainly(n.Trans[t], m)
		if !ok {
			return m, i, true
		}
		m = behind
	}
	return m, len(seq), true
}

// wrongNumbers are no numbers of as many transitions; some of them are one where their upper bits are lost.
func wrongNumbers(trans int) []int {
	return []int{-1, trans, trans + 1, impl.MaxTrans, impl.MaxTrans + 1, 256, 1 << 32, 1<<32 + 1, -1 << 32, math.MinInt, math.MaxInt}
}

func sameNet(a, b impl.Net) bool {
	return a.Places == b.Places && slices.EqualFunc(a.Trans, b.Trans, func(s, t impl.Trans) bool {
		return slices.Equal(s.In, t.In) && slices.Equal(s.Out, t.Out) && slices.Equal(s.Reset, t.Reset)
	})
}

func cloneNet(n impl.Net) impl.Net {
	out := impl.Net{Places: n.Places}
	for _, t := range n.Trans {
		out.Trans = append(out.Trans, impl.Trans{In: slices.Clone(t.In), Out: slices.Clone(t.Out), Reset: slices.Clone(t.Reset)})
	}
	return out
}

// guardedNet is the same net, with guards behind all its lists, and a good transition behind those that it has.
func guardedNet(n impl.Net) impl.Net {
	trans := make([]impl.Trans, 0, len(n.Trans)+1)
	for _, t := range n.Trans {
		trans = append(trans, impl.Trans{In: guardedList(t.In), Out: guardedList(t.Out), Reset: guardedList(t.Reset)})
	}
	behind := trans[:len(n.Trans)+1]
	behind[len(n.Trans)] = impl.Trans{In: []int{0}, Reset: []int{0}}
	return impl.Net{Places: n.Places, Trans: trans}
}

// untouchedNet fails where a net that guardedNet made is no longer what it was.
func untouchedNet(t *testing.T, what string, n impl.Net, was impl.Net) {
	t.Helper()
	if n.Places != was.Places || len(n.Trans) != len(was.Trans) {
		t.Fatalf("%s: an argument was changed to %v, it was %v", what, n, was)
	}
	for i := range n.Trans {
		untouched(t, what, n.Trans[i].In, was.Trans[i].In)
		untouched(t, what, n.Trans[i].Out, was.Trans[i].Out)
		untouched(t, what, n.Trans[i].Reset, was.Trans[i].Reset)
	}
	behind := n.Trans[:len(n.Trans)+1][len(n.Trans)]
	if !slices.Equal(behind.In, []int{0}) || len(behind.Out) != 0 || !slices.Equal(behind.Reset, []int{0}) {
		t.Errorf("%s: memory behind an argument's length was changed to %v", what, behind)
	}
}

// scribbleNet writes over all the memory that a net hands out.
func scribbleNet(n impl.Net) {
	for _, t := range n.Trans[:cap(n.Trans)] {
		scribble(t.In)
		scribble(t.Out)
		scribble(t.Reset)
	}
	clear(n.Trans[:cap(n.Trans)])
}

// wrongNet is a net that is not good.
type wrongNet struct {
	what string
	n    impl.Net
}

// wrongLists are no rising lists of three places.
func wrongLists() [][]int {
	return [][]int{
		{-1}, {3}, {4}, {impl.MaxPlaces}, {math.MinInt}, {math.MaxInt}, {64}, {1 << 32}, {1<<32 + 1}, {-1 << 32},
		{0, 0}, {1, 1}, {2, 2}, {1, 0}, {2, 1}, {0, 2, 1}, {1, 0, 2}, {0, 1, 1}, {0, 0, 1}, {0, 1, 0},
		{-1, 0}, {-1, 0, 1}, {0, -1}, {0, 3}, {0, 1, 2, 3}, {0, 1, 2, 2}, {3, 0}, {0, 1, 2, 0},
	}
}

func wrongNets() []wrongNet {
	good := impl.Trans{In: []int{0}}
	l := []wrongNet{
		{"no places", impl.Net{Places: 0}},
		{"no places, a transition", impl.Net{Places: 0, Trans: []impl.Trans{good}}},
		{"places below 0", impl.Net{Places: -1}},
		{"places below 0, a transition", impl.Net{Places: -3, Trans: []impl.Trans{good}}},
		{"least places", impl.Net{Places: math.MinInt}},
		{"greatest places", impl.Net{Places: math.MaxInt, Trans: []impl.Trans{good}}},
		{"one place more than MaxPlaces", impl.Net{Places: impl.MaxPlaces + 1}},
		{"one place more than MaxPlaces, a transition", impl.Net{Places: impl.MaxPlaces + 1, Trans: []impl.Trans{good}}},
		{"one transition more than MaxTrans", impl.Net{Places: 3, Trans: slices.Repeat([]impl.Trans{good}, impl.MaxTrans+1)}},
		{"a great many transitions", impl.Net{Places: 3, Trans: slices.Repeat([]impl.Trans{good}, 1000)}},
		{"nil In", impl.Net{Places: 3, Trans: []impl.Trans{{Out: []int{0}}}}},
		{"empty In", impl.Net{Places: 3, Trans: []impl.Trans{{In: []int{}, Out: []int{0}, Reset: []int{1}}}}},
		{"nothing at all", impl.Net{Places: 3, Trans: []impl.Trans{{}}}},
		{"empty In at the end", impl.Net{Places: 3, Trans: []impl.Trans{good, good, {Out: []int{0}}}}},
		{"empty In in the midst", impl.Net{Places: 3, Trans: []impl.Trans{good, {Out: []int{0}}, good}}},
		{"the last of MaxPlaces and one", impl.Net{Places: impl.MaxPlaces, Trans: []impl.Trans{{In: []int{impl.MaxPlaces}}}}},
		{"the last of 1 place and one", impl.Net{Places: 1, Trans: []impl.Trans{{In: []int{0}, Out: []int{1}}}}},
	}
	for _, list := range wrongLists() {
		l = append(l,
			wrongNet{"wrong In", impl.Net{Places: 3, Trans: []impl.Trans{{In: list}}}},
			wrongNet{"wrong Out", impl.Net{Places: 3, Trans: []impl.Trans{{In: []int{0}, Out: list}}}},
			wrongNet{"wrong Reset", impl.Net{Places: 3, Trans: []impl.Trans{{In: []int{0}, Reset: list}}}},
			wrongNet{"wrong In at the end", impl.Net{Places: 3, Trans: []impl.Trans{good, {In: list}}}},
			wrongNet{"wrong Out at the front", impl.Net{Places: 3, Trans: []impl.Trans{{In: []int{0}, Out: list}, good}}},
			wrongNet{"wrong Reset at the end", impl.Net{Places: 3, Trans: []impl.Trans{good, {In: []int{0}, Reset: list}}}},
		)
	}
	return l
}

// resetNets are good nets of three places that empty one, be it by a transition that is never enabled.
func resetNets() []wrongNet {
	plain := stepOf([]int{0}, 1)
	cases := []wrongNet{
		{"the only one", netOf(3, impl.Trans{In: []int{0}, Reset: []int{1}})},
		{"a place of its own", netOf(3, impl.Trans{In: []int{0}, Reset: []int{0}})},
		{"a place that is given back", netOf(3, impl.Trans{In: []int{0}, Out: []int{0}, Reset: []int{0}})},
		{"all places", netOf(3, impl.Trans{In: []int{0}, Out: []int{1}, Reset: []int{0, 1, 2}})},
		{"the first", netOf(3, impl.Trans{In: []int{0}, Reset: []int{2}}, plain)},
		{"the last", netOf(3, plain, impl.Trans{In: []int{0}, Reset: []int{0}})},
		{"one that is never enabled", netOf(3, plain, impl.Trans{In: []int{2}, Out: []int{2}, Reset: []int{2}})},
	}
	last := append(slices.Repeat([]impl.Trans{plain}, impl.MaxTrans-1), impl.Trans{In: []int{0}, Reset: []int{2}})
	return append(cases, wrongNet{"the last of MaxTrans", netOf(3, last...)})
}

// emptyResetNet has lists of Reset that are empty: it empties nothing.
func emptyResetNet() impl.Net {
	return netOf(3, impl.Trans{In: []int{0}, Out: []int{1}, Reset: []int{}}, stepOf([]int{0}, 1))
}

// markBeside is a good mark of as many places as a wrong net's, where there is one.
func markBeside(n impl.Net) []int {
	if n.Places < 1 || n.Places > impl.MaxPlaces+1 {
		return []int{1}
	}
	return filled(n.Places, 1)
}

package thing

import (
	"bytes"
	"encoding/binary"
	"maps"
	"math"
	"math/big"
	"math/rand"
	"slices"
	"testing"

	"priorart/api"
)

// The reference follows the words of the chapter. It lists the nodes of a thing, compares things by keys, and writes
// varints with encoding/binary. It shares no code with the package.

// place is a node and its level, which is 1 for the thing itself.
type place struct {
	node  api.Thing
	level int
}

// places returns all nodes.
func places(t api.Thing) []place {
	l := []place{{t, 1}}
	for i := 0; i < len(l); i++ {
		for _, p := range l[i].node.Parts {
			l = append(l, place{p, l[i].level + 1})
		}
	}
	return l
}

func refDeep(t api.Thing) int {
	deep := 0
	for _, p := range places(t) {
		deep = max(deep, p.level)
	}
	return deep
}

func refRatio(r api.Ratio) bool {
	if r.Den < 1 || r.Den > 65536 || r.Num < -1<<40 || r.Num > 1<<40 {
		return false
	}
	// Lowest terms are what a rational of math/big has.
	lowest := big.NewRat(int64(r.Num), int64(r.Den))
	return lowest.Num().Int64() == int64(r.Num) && lowest.Denom().Int64() == int64(r.Den)
}

func refValid(t api.Thing) api.Errno {
	l := places(t)
	if len(l) > 96 || refDeep(t) > 8 {
		return api.ErrLimit
	}
	for _, p := range l {
		for i, c := range p.node.Classes {
			if c < 0 || c > 63 || i > 0 && p.node.Classes[i-1] >= c {
				return api.ErrArg
			}
		}
		for i, v := range p.node.Values {
			if v.Attr < 0 || v.Attr > 31 || !refRatio(v.N) || i > 0 && p.node.Values[i-1].Attr >= v.Attr {
				return api.ErrArg
			}
		}
	}
	return api.OK
}

// key returns a list of numbers whose order is that of things: 1 comes before each element of a list, and 0 after the
// last one, so that a list comes before all longer ones of which it is the beginning.
func key(t api.Thing) []int {
	var k []int
	for _, c := range t.Classes {
		k = append(k, 1, c)
	}
	k = append(k, 0)
	for _, v := range t.Values {
		k = append(k, 1, v.Attr, v.N.Num, v.N.Den)
	}
	k = append(k, 0)
	for _, p := range t.Parts {
		k = append(append(k, 1), key(p)...)
	}
	return append(k, 0)
}

func equal(a, b api.Thing) bool { return slices.Equal(key(a), key(b)) }

// refNormal returns the normal form and the error.
func refNormal(t api.Thing) (api.Thing, api.Errno) {
	for _, p := range places(t) {
		for _, v := range p.node.Values {
			for _, w := range p.node.Values {
				if v.Attr == w.Attr && v != w {
					return api.Thing{}, api.ErrTwice
				}
			}
		}
	}
	n := refSorted(t)
	if e := refValid(n); e != api.OK {
		return api.Thing{}, e
	}
	return n, api.OK
}

func refSorted(t api.Thing) api.Thing {
	classes, values := map[int]bool{}, map[int]api.Value{}
	for _, c := range t.Classes {
		classes[c] = true
	}
	for _, v := range t.Values {
		values[v.Attr] = v
	}
	n := api.Thing{Classes: slices.Sorted(maps.Keys(classes))}
	for _, attr := range slices.Sorted(maps.Keys(values)) {
		n.Values = append(n.Values, values[attr])
	}
	for _, p := range t.Parts {
		part := refSorted(p)
		at := 0
		for at < len(n.Parts) && slices.Compare(key(n.Parts[at]), key(part)) < 0 {
			at++
		}
		n.Parts = slices.Insert(n.Parts, at, part)
	}
	return n
}

func refWith(t, part api.Thing) (api.Thing, api.Errno) {
	if e := refValid(t); e != api.OK {
		return api.Thing{}, e
	}
	if e := refValid(part); e != api.OK {
		return api.Thing{}, e
	}
	var before, after []api.Thing
	for _, p := range t.Parts {
		if len(after) > 0 || slices.Compare(key(p), key(part)) > 0 {
			after = append(after, p)
		} else {
			before = append(before, p)
		}
	}
	with := api.Thing{Classes: t.Classes, Values: t.Values, Parts: append(append(before, part), after...)}
	if e := refValid(with); e != api.OK {
		return api.Thing{}, e
	}
	return with, api.OK
}

func refEncode(t api.Thing) []byte {
	b := binary.AppendUvarint(nil, uint64(len(t.Classes)))
	for _, c := range t.Classes {
		b = binary.AppendVarint(b, int64(c))
	}
	b = binary.AppendVarint(b, int64(len(t.Values)))
	for _, v := range t.Values {
		b = binary.AppendVarint(b, int64(v.Attr))
		b = binary.AppendVarint(b, int64(v.N.Num))
		b = binary.AppendVarint(b, int64(v.N.Den))
	}
	b = binary.AppendVarint(b, int64(len(t.Parts)))
	for _, p := range t.Parts {
		b = append(b, refEncode(p)...)
	}
	return b
}

func val(attr, num, den int) api.Value {
	return api.Value{Attr: attr, N: api.Ratio{Num: num, Den: den}}
}

func of(classes ...int) api.Thing { return api.Thing{Classes: classes} }

func having(values ...api.Value) api.Thing { return api.Thing{Values: values} }

// around returns a thing of some nodes without classes and values, with t as the innermost one.
func around(levels int, t api.Thing) api.Thing {
	for range levels {
		t = api.Thing{Parts: []api.Thing{t}}
	}
	return t
}

// line returns a thing of some nodes, each but the last one with one part.
func line(nodes int) api.Thing { return around(nodes-1, api.Thing{}) }

// star returns a thing of some nodes, all but the first one parts of it.
func star(nodes int) api.Thing { return api.Thing{Parts: make([]api.Thing, nodes-1)} }

// doubled returns a thing with 2^levels - 1 nodes.
func doubled(levels int) api.Thing {
	var t api.Thing
	for range levels - 1 {
		t = api.Thing{Parts: []api.Thing{t, t}}
	}
	return t
}

// copied returns a copy that shares no memory.
func copied(t api.Thing) api.Thing {
	c := api.Thing{Classes: append([]int{}, t.Classes...), Values: append([]api.Value{}, t.Values...)}
	for _, p := range t.Parts {
		c.Parts = append(c.Parts, copied(p))
	}
	return c
}

// zero reports whether a thing is the zero value.
func zero(t api.Thing) bool { return len(t.Classes)+len(t.Values)+len(t.Parts) == 0 }

// everyCall compares all calls for a thing with the reference.
func everyCall(t *testing.T, x api.Thing) {
	t.Helper()
	want := refValid(x)
	if e := Valid(x); e != want {
		t.Fatalf("Valid(%v): %d instead of %d", x, e, want)
	}
	if Size(x) != len(places(x)) || Deep(x) != refDeep(x) {
		t.Fatalf("%v: size %d, nesting %d", x, Size(x), Deep(x))
	}
	n, e := Normal(x)
	if m, f := refNormal(x); e != f || !equal(n, m) {
		t.Fatalf("Normal(%v): %v, %d instead of %v, %d", x, n, e, m, f)
	}
	b, e := Encode(x)
	if e != want || e != api.OK && len(b) > 0 || e == api.OK && !bytes.Equal(b, refEncode(x)) {
		t.Fatalf("Encode(%v): %v, %d instead of %d", x, b, e, want)
	}
	y, e := Decode(refEncode(x))
	if want == api.OK && (e != api.OK || !equal(x, y)) || want != api.OK && (e != api.ErrForm || !zero(y)) {
		t.Fatalf("Decode of %v: %v, %d", x, y, e)
	}
	for attr := -1; attr < 34; attr++ {
		i := slices.IndexFunc(x.Values, func(v api.Value) bool { return v.Attr == attr })
		r, ok := Value(x, attr)
		if ok != (i >= 0) || !ok && r != (api.Ratio{}) || ok && r != x.Values[i].N {
			t.Fatalf("Value(%v, %d): %v, %v", x, attr, r, ok)
		}
	}
}

// bothCalls compares the calls for two things with the reference.
func bothCalls(t *testing.T, a, b api.Thing) {
	t.Helper()
	if c := Compare(a, b); c != slices.Compare(key(a), key(b)) {
		t.Fatalf("Compare(%v, %v): %d", a, b, c)
	}
	x, e := With(a, b)
	if y, f := refWith(a, b); e != f || !equal(x, y) {
		t.Fatalf("With(%v, %v): %v, %d instead of %v, %d", a, b, x, e, y, f)
	}
}

// small returns all things of one node with few classes and values, also ones that are not valid.
func small() []api.Thing {
	var l []api.Thing
	for _, classes := range [][]int{nil, {0}, {1}, {0, 1}, {1, 0}, {0, 0}} {
		for _, values := range [][]api.Value{nil, {val(0, 1, 2)}, {val(0, 1, 3)}, {val(0, 1, 2), val(1, -1, 1)}, {val(1, -1, 1), val(0, 1, 2)}, {val(0, 1, 2), val(0, 1, 2)}, {val(0, 1, 2), val(0, 1, 3)}} {
			l = append(l, api.Thing{Classes: classes, Values: values})
		}
	}
	return l
}

// middle returns things of up to three nodes, also ones that are not valid.
func middle() []api.Thing {
	few := []api.Thing{{}, of(0), of(0, 1), having(val(0, 1, 2)), of(1, 0)}
	var l []api.Thing
	for _, t := range small() {
		l = append(l, t)
		for _, p := range few {
			l = append(l, api.Thing{Classes: t.Classes, Values: t.Values, Parts: []api.Thing{p}})
			for _, q := range few {
				l = append(l, api.Thing{Classes: t.Classes, Values: t.Values, Parts: []api.Thing{p, q}})
			}
		}
	}
	return l
}

// someClasses and someValues return short lists in increasing order.
func someClasses(rnd *rand.Rand) []int {
	var l []int
	for c := rnd.Intn(64); c < 64 && rnd.Intn(3) > 0; c += 1 + rnd.Intn(20) {
		l = append(l, c)
	}
	return l
}

func someValues(rnd *rand.Rand) []api.Value {
	var l []api.Value
	for attr := rnd.Intn(32); attr < 32 && rnd.Intn(3) > 0; attr += 1 + rnd.Intn(8) {
		v := val(attr, rnd.Intn(1<<rnd.Intn(41))-rnd.Intn(1<<rnd.Intn(41)), 1<<rnd.Intn(17))
		for v.N.Den > 1 && v.N.Num%2 == 0 {
			v.N = api.Ratio{Num: v.N.Num / 2, Den: v.N.Den / 2}
		}
		l = append(l, v)
	}
	return l
}

// someThing returns a thing with some nodes, of which each is a part of an earlier one, at most at level 8. Some of its
// parts are alike.
func someThing(rnd *rand.Rand, nodes int) api.Thing {
	type branch struct {
		api.Thing
		level int
		parts []*branch
	}
	root := &branch{level: 1}
	all := []*branch{root}
	for len(all) < nodes {
		up := all[rnd.Intn(len(all))]
		if up.level == 8 {
			continue
		}
		b := &branch{level: up.level + 1}
		up.parts = append(up.parts, b)
		all = append(all, b)
	}
	for _, b := range all {
		if rnd.Intn(3) > 0 {
			b.Classes, b.Values = someClasses(rnd), someValues(rnd)
		}
	}
	var grown func(b *branch) api.Thing
	grown = func(b *branch) api.Thing {
		for _, p := range b.parts {
			b.Parts = append(b.Parts, grown(p))
		}
		return b.Thing
	}
	return grown(root)
}

// someNode returns a node of a thing, to be changed.
func someNode(rnd *rand.Rand, t *api.Thing) *api.Thing {
	for len(t.Parts) > 0 && rnd.Intn(4) > 0 {
		t = &t.Parts[rnd.Intn(len(t.Parts))]
	}
	return t
}

// shuffled changes the order of classes, values and parts of all nodes.
func shuffled(rnd *rand.Rand, t api.Thing) api.Thing {
	s := copied(t)
	rnd.Shuffle(len(s.Classes), func(i, j int) { s.Classes[i], s.Classes[j] = s.Classes[j], s.Classes[i] })
	rnd.Shuffle(len(s.Values), func(i, j int) { s.Values[i], s.Values[j] = s.Values[j], s.Values[i] })
	rnd.Shuffle(len(s.Parts), func(i, j int) { s.Parts[i], s.Parts[j] = s.Parts[j], s.Parts[i] })
	for i, p := range s.Parts {
		s.Parts[i] = shuffled(rnd, p)
	}
	return s
}

// reordered changes the order of the parts of all nodes alone.
func reordered(rnd *rand.Rand, t api.Thing) api.Thing {
	r := copied(t)
	rnd.Shuffle(len(r.Parts), func(i, j int) { r.Parts[i], r.Parts[j] = r.Parts[j], r.Parts[i] })
	for i, p := range r.Parts {
		r.Parts[i] = reordered(rnd, p)
	}
	return r
}

// spoiled changes a node so that the thing is perhaps no longer valid.
func spoiled(rnd *rand.Rand, t api.Thing) api.Thing {
	s := copied(t)
	n := someNode(rnd, &s)
	switch rnd.Intn(8) {
	case 0:
		n.Classes = append(n.Classes, []int{-1, 64, 0, 63, math.MaxInt, math.MinInt}[rnd.Intn(6)])
	case 1:
		n.Values = append(n.Values, val([]int{-1, 32, 31, 0}[rnd.Intn(4)], 1, 1))
	case 2:
		n.Values = append(n.Values, val(rnd.Intn(32), rnd.Intn(5)-2, []int{0, -1, 1, 4, 65536, 65537, 1 << 17}[rnd.Intn(7)]))
	case 3:
		n.Values = append(n.Values, n.Values...)
	case 4:
		n.Classes = append(n.Classes, n.Classes...)
	case 5:
		n.Parts = append(n.Parts, line(1+rnd.Intn(8)), star(1+rnd.Intn(90)))
	case 6:
		s = shuffled(rnd, s)
	case 7:
		n.Values = append(n.Values, val(3, 1, 2), val(3, 1, 3))
	}
	return s
}

// P6.1: cases that were worked out by hand, in the thing itself and in its innermost part.
func TestValid(t *testing.T) {
	for i, c := range []struct {
		x    api.Thing
		want api.Errno
	}{
		{api.Thing{}, api.OK}, {of(0), api.OK}, {of(63), api.OK}, {of(0, 63), api.OK}, {of(0, 1, 2, 62, 63), api.OK},
		{of(-1), api.ErrArg}, {of(64), api.ErrArg}, {of(0, 64), api.ErrArg}, {of(-1, 0), api.ErrArg}, {of(1, 1), api.ErrArg}, {of(2, 1), api.ErrArg}, {of(0, 5, 3), api.ErrArg},
		{of(0, 1, 2, 2), api.ErrArg}, {of(math.MinInt), api.ErrArg}, {of(math.MaxInt), api.ErrArg}, {of(math.MinInt, 1), api.ErrArg},
		{having(val(0, 0, 1)), api.OK}, {having(val(31, 0, 1)), api.OK}, {having(val(0, 5, 1), val(31, 5, 1)), api.OK}, {having(val(0, 5, 1), val(1, 5, 1)), api.OK},
		{having(val(-1, 0, 1)), api.ErrArg}, {having(val(32, 0, 1)), api.ErrArg}, {having(val(1, 0, 1), val(0, 0, 1)), api.ErrArg}, {having(val(1, 0, 1), val(1, 0, 1)), api.ErrArg},
		{having(val(1, 0, 1), val(1, 1, 1)), api.ErrArg}, {having(val(0, 0, 1), val(2, 0, 1), val(1, 0, 1)), api.ErrArg}, {having(val(math.MinInt, 0, 1)), api.ErrArg}, {having(val(math.MaxInt, 0, 1)), api.ErrArg},
		{having(val(0, 1, 65536)), api.OK}, {having(val(0, -3, 65536)), api.OK}, {having(val(0, 1, 65535)), api.OK}, {having(val(0, 1, 65537)), api.ErrArg}, {having(val(0, 3, 65537)), api.ErrArg},
		{having(val(0, 1, 1<<20)), api.ErrArg}, {having(val(0, 1<<40, 1)), api.OK}, {having(val(0, -1<<40, 1)), api.OK}, {having(val(0, 1<<40-1, 65536)), api.OK},
		{having(val(0, 1<<40+1, 1)), api.ErrArg}, {having(val(0, -1<<40-1, 1)), api.ErrArg}, {having(val(0, 2, 4)), api.ErrArg}, {having(val(0, 0, 2)), api.ErrArg},
		{having(val(0, 0, 0)), api.ErrArg}, {having(val(0, 1, 0)), api.ErrArg}, {having(val(0, 1, -1)), api.ErrArg}, {having(val(0, math.MinInt, math.MinInt)), api.ErrArg},
		{having(val(0, 1, 2), val(1, 2, 2)), api.ErrArg}, {having(val(0, 2, 2), val(1, 1, 2)), api.ErrArg},
		{api.Thing{Classes: []int{1}, Values: []api.Value{val(1, 1, 0)}}, api.ErrArg}, {api.Thing{Classes: []int{64}, Values: []api.Value{val(1, 1, 1)}}, api.ErrArg},
	} {
		// A thing with a valid part before it and behind it, and the innermost part of a line.
		for _, x := range []api.Thing{c.x, {Parts: []api.Thing{of(1), c.x, of(1)}}, {Classes: c.x.Classes, Values: c.x.Values, Parts: []api.Thing{of(1)}}, around(7, c.x)} {
			if e := Valid(x); e != c.want || e != refValid(x) {
				t.Errorf("case %d: %v: %d", i, x, e)
			}
			everyCall(t, x)
		}
	}
}

// P6.1: the limits of nodes and nesting, and one beyond; ErrLimit comes before ErrArg.
func TestLimits(t *testing.T) {
	all := api.Thing{}
	for c := range 64 {
		all.Classes = append(all.Classes, c)
	}
	for attr := range 32 {
		all.Values = append(all.Values, val(attr, -1<<40, 1))
	}
	for i, c := range []struct {
		x    api.Thing
		want api.Errno
	}{
		{star(95), api.OK}, {star(96), api.OK}, {star(97), api.ErrLimit}, {star(5000), api.ErrLimit}, {line(7), api.OK}, {line(8), api.OK}, {line(9), api.ErrLimit}, {line(97), api.ErrLimit},
		{api.Thing{Parts: []api.Thing{line(7), line(2)}}, api.OK}, {api.Thing{Parts: []api.Thing{line(2), line(8)}}, api.ErrLimit}, {api.Thing{Parts: []api.Thing{line(8), line(2)}}, api.ErrLimit},
		{around(1, star(95)), api.OK}, {around(1, star(96)), api.ErrLimit}, {around(6, star(90)), api.OK}, {around(6, star(91)), api.ErrLimit}, {around(7, star(2)), api.ErrLimit},
		{doubled(6), api.OK}, {doubled(7), api.ErrLimit}, {doubled(8), api.ErrLimit}, {doubled(9), api.ErrLimit},
		{api.Thing{Parts: []api.Thing{star(48), star(47)}}, api.OK}, {api.Thing{Parts: []api.Thing{star(48), star(48)}}, api.ErrLimit}, {api.Thing{Parts: append(make([]api.Thing, 47), star(48))}, api.OK}, {api.Thing{Parts: append(make([]api.Thing, 48), star(48))}, api.ErrLimit},
		{api.Thing{Classes: []int{-1}, Parts: star(97).Parts}, api.ErrLimit}, {api.Thing{Classes: []int{-1}, Parts: star(96).Parts}, api.ErrArg}, {api.Thing{Values: []api.Value{val(0, 1, 0)}, Parts: line(9).Parts}, api.ErrLimit},
		{api.Thing{Values: []api.Value{val(0, 1, 0)}, Parts: line(8).Parts}, api.ErrArg}, {around(8, of(-1)), api.ErrLimit}, {around(7, of(-1)), api.ErrArg}, {api.Thing{Parts: append(star(96).Parts, of(64))}, api.ErrLimit}, {api.Thing{Parts: append(star(95).Parts, of(64))}, api.ErrArg},
		{all, api.OK}, {around(7, all), api.OK}, {api.Thing{Parts: slices.Repeat([]api.Thing{all}, 95)}, api.OK}, {api.Thing{Parts: slices.Repeat([]api.Thing{all}, 96)}, api.ErrLimit},
		{of(append(slices.Clone(all.Classes), 64)...), api.ErrArg}, {having(append(slices.Clone(all.Values), val(32, 0, 1))...), api.ErrArg},
	} {
		if e := Valid(c.x); e != c.want {
			t.Errorf("case %d: %d", i, e)
		}
		everyCall(t, c.x)
	}
}

// P6.2: cases that were worked out by hand.
func TestNormal(t *testing.T) {
	for i, c := range []struct{ x, want api.Thing }{
		{api.Thing{}, api.Thing{}}, {of(5, 2, 5), of(2, 5)}, {of(3, 3, 3), of(3)}, {of(63, 0), of(0, 63)},
		{having(val(3, 1, 2), val(1, 7, 1), val(3, 1, 2)), having(val(1, 7, 1), val(3, 1, 2))}, {having(val(31, 0, 1), val(0, 9, 1)), having(val(0, 9, 1), val(31, 0, 1))},
		{having(val(2, 1, 2), val(2, 1, 2), val(2, 1, 2)), having(val(2, 1, 2))},
		{api.Thing{Parts: []api.Thing{of(4), of(3, 1), of(4)}}, api.Thing{Parts: []api.Thing{of(1, 3), of(4), of(4)}}},
		{api.Thing{Parts: []api.Thing{of(2), {}, having(val(0, 1, 1)), of(2)}}, api.Thing{Parts: []api.Thing{{}, having(val(0, 1, 1)), of(2), of(2)}}},
		// The parts are in order by their normal forms: {9, 1} comes before {2}.
		{api.Thing{Parts: []api.Thing{of(2), of(9, 1)}}, api.Thing{Parts: []api.Thing{of(1, 9), of(2)}}},
		{api.Thing{Parts: []api.Thing{of(2, 3), of(2, 2)}}, api.Thing{Parts: []api.Thing{of(2), of(2, 3)}}},
		{around(3, api.Thing{Classes: []int{1, 0}, Parts: []api.Thing{of(7), of(6)}}), around(3, api.Thing{Classes: []int{0, 1}, Parts: []api.Thing{of(6), of(7)}})},
		{api.Thing{Parts: []api.Thing{{Parts: []api.Thing{of(5), of(4)}}, {Parts: []api.Thing{of(4), of(4)}}}}, api.Thing{Parts: []api.Thing{{Parts: []api.Thing{of(4), of(4)}}, {Parts: []api.Thing{of(4), of(5)}}}}},
		{api.Thing{Parts: []api.Thing{{Parts: []api.Thing{of(5), of(4)}}, {Parts: []api.Thing{of(4)}}, {}}}, api.Thing{Parts: []api.Thing{{}, {Parts: []api.Thing{of(4)}}, {Parts: []api.Thing{of(4), of(5)}}}}},
		{star(96), star(96)}, {line(8), line(8)},
	} {
		if n, e := Normal(c.x); e != api.OK || !equal(n, c.want) {
			t.Errorf("case %d: %v, %d", i, n, e)
		}
		everyCall(t, c.x)
	}
}

// P6.2: ErrTwice, in whatever node, comes before the errors of the result.
func TestNormalErrors(t *testing.T) {
	twice := having(val(3, 1, 2), val(3, 1, 3))
	for i, c := range []struct {
		x    api.Thing
		want api.Errno
	}{
		{twice, api.ErrTwice}, {having(val(3, 1, 2), val(1, 0, 1), val(3, 2, 2)), api.ErrTwice}, {having(val(3, 1, 2), val(3, 1, 2), val(3, 1, 4)), api.ErrTwice}, {having(val(0, 1, 2), val(0, 2, 4)), api.ErrTwice},
		{having(val(40, 1, 2), val(40, 1, 3)), api.ErrTwice}, {having(val(-1, 1, 0), val(-1, 2, 0)), api.ErrTwice}, {around(1, twice), api.ErrTwice}, {around(7, twice), api.ErrTwice}, {around(8, twice), api.ErrTwice}, {around(100, twice), api.ErrTwice},
		{api.Thing{Classes: []int{64}, Parts: []api.Thing{{}, twice, {}}}, api.ErrTwice}, {api.Thing{Parts: append(star(200).Parts, twice)}, api.ErrTwice}, {api.Thing{Classes: []int{-1}, Values: twice.Values, Parts: line(20).Parts}, api.ErrTwice},
		{having(val(3, 1, 0), val(3, 1, 0)), api.ErrArg}, {having(val(3, 2, 4)), api.ErrArg}, {having(val(0, 1, 1), val(32, 1, 1)), api.ErrArg}, {having(val(0, 1, 65537)), api.ErrArg},
		{of(64), api.ErrArg}, {of(5, -1), api.ErrArg}, {around(7, of(0, 64)), api.ErrArg}, {around(8, of(0, 64)), api.ErrLimit}, {line(9), api.ErrLimit}, {star(97), api.ErrLimit},
		{api.Thing{Classes: []int{64}, Parts: star(97).Parts}, api.ErrLimit}, {having(val(0, 1, 1), val(1, 1, 1), val(0, 1, 1)), api.OK},
		// A value that stands in two nodes does not stand twice.
		{api.Thing{Values: []api.Value{val(3, 1, 2)}, Parts: []api.Thing{having(val(3, 1, 3)), having(val(3, 1, 4))}}, api.OK},
	} {
		if n, e := Normal(c.x); e != c.want || e != api.OK && !zero(n) {
			t.Errorf("case %d: %v, %d", i, n, e)
		}
		everyCall(t, c.x)
	}
}

// P6.3: cases that were worked out by hand, also of things that are too large.
func TestSize(t *testing.T) {
	for i, c := range []struct {
		x          api.Thing
		size, deep int
	}{
		{api.Thing{}, 1, 1}, {of(1, 2, 3), 1, 1}, {having(val(1, 1, 1)), 1, 1}, {line(2), 2, 2}, {line(8), 8, 8}, {line(9), 9, 9}, {star(2), 2, 2}, {star(96), 96, 2}, {star(1000), 1000, 2},
		{api.Thing{Parts: []api.Thing{line(2), line(4), line(1)}}, 8, 5}, {api.Thing{Parts: []api.Thing{line(5), line(4), star(7)}}, 17, 6}, {around(3, star(5)), 8, 5}, {doubled(1), 1, 1}, {doubled(5), 31, 5}, {doubled(12), 4095, 12},
		{line(5000), 5000, 5000}, {of(-1, -1), 1, 1},
	} {
		if s, d := Size(c.x), Deep(c.x); s != c.size || d != c.deep {
			t.Errorf("case %d: %d, %d", i, s, d)
		}
	}
}

// increasingThings is a list in increasing order, worked out by hand, also with things that are not valid.
func increasingThings() []api.Thing {
	with := func(parts ...api.Thing) api.Thing { return api.Thing{Parts: parts} }
	return []api.Thing{
		{}, line(2), with(api.Thing{}, api.Thing{}), with(api.Thing{}, of(1)), line(3), with(line(2), api.Thing{}), line(9), with(having(val(1, 1, 1))), with(of(1)), with(of(1), api.Thing{}), with(of(2)),
		having(val(math.MinInt, 5, 5)), having(val(-1, 0, 0)), having(val(0, math.MinInt, 1)), having(val(0, -5, 1)), having(val(0, 1, -1)), having(val(0, 1, 0)), having(val(0, 1, 1)),
		// Values are not compared as rationals: 1/1 comes before 1/2.
		having(val(0, 1, 2)), {Values: []api.Value{val(0, 1, 2)}, Parts: []api.Thing{{}}}, having(val(0, 1, 2), val(0, 1, 2)), having(val(0, 1, 2), val(1, 0, 1)), having(val(0, 1, math.MaxInt)), having(val(0, 2, 1)), having(val(0, math.MaxInt, 1)), having(val(1, -9, 1)), having(val(math.MaxInt, 0, 1)),
		of(math.MinInt), of(-1), of(-1, 9), of(0), {Classes: []int{0}, Parts: []api.Thing{of(9)}}, {Classes: []int{0}, Values: []api.Value{val(0, 0, 1)}}, of(0, 0), of(0, 7), of(0, 7, 8), of(1), {Classes: []int{1}, Parts: []api.Thing{{}}}, {Classes: []int{1}, Values: []api.Value{val(9, 9, 1)}}, of(1, -5), of(1, 0), of(2), of(63), of(64), of(math.MaxInt),
	}
}

// P6.4: all pairs of a list that was worked out by hand.
func TestCompare(t *testing.T) {
	l := increasingThings()
	for i, a := range l {
		for k, b := range l {
			want := 0
			if i < k {
				want = -1
			} else if i > k {
				want = 1
			}
			if c := Compare(copied(a), copied(b)); c != want {
				t.Errorf("Compare(%v, %v): %d", a, b, c)
			}
			bothCalls(t, a, b)
		}
	}
}

// P6.5: the first value, of the thing alone, also where the thing is not valid.
func TestValue(t *testing.T) {
	x := api.Thing{Values: []api.Value{val(2, 1, 3), val(5, 0, 1), val(2, 7, 7), val(-1, 4, 0), val(math.MaxInt, 3, 1)}, Parts: []api.Thing{having(val(9, 1, 1))}}
	for _, c := range []struct {
		attr int
		want api.Ratio
		ok   bool
	}{{2, api.Ratio{Num: 1, Den: 3}, true}, {5, api.Ratio{Num: 0, Den: 1}, true}, {-1, api.Ratio{Num: 4, Den: 0}, true}, {math.MaxInt, api.Ratio{Num: 3, Den: 1}, true}, {9, api.Ratio{}, false}, {0, api.Ratio{}, false}, {32, api.Ratio{}, false}, {math.MinInt, api.Ratio{}, false}} {
		if r, ok := Value(x, c.attr); r != c.want || ok != c.ok {
			t.Errorf("Value of %d: %v, %v", c.attr, r, ok)
		}
	}
	if r, ok := Value(api.Thing{}, 0); r != (api.Ratio{}) || ok {
		t.Errorf("no values: %v, %v", r, ok)
	}
}

// P6.6: cases that were worked out by hand.
func TestWith(t *testing.T) {
	// The mark tells a part from the others of the same class.
	mark := func(c, mark int) api.Thing { return api.Thing{Classes: []int{c}, Parts: []api.Thing{of(mark)}} }
	parts := func(l ...api.Thing) api.Thing {
		return api.Thing{Classes: []int{9}, Values: []api.Value{val(0, 1, 2)}, Parts: l}
	}
	for i, c := range []struct{ x, part, want api.Thing }{
		{parts(), api.Thing{}, parts(api.Thing{})}, {parts(of(2)), of(1), parts(of(1), of(2))}, {parts(of(2)), of(3), parts(of(2), of(3))}, {parts(of(2), of(4)), of(3), parts(of(2), of(3), of(4))},
		{parts(of(2), of(2)), of(2), parts(of(2), of(2), of(2))}, {parts(of(1), of(2)), api.Thing{}, parts(api.Thing{}, of(1), of(2))}, {parts(mark(2, 1), mark(2, 5)), mark(2, 3), parts(mark(2, 1), mark(2, 3), mark(2, 5))},
		// The parts need not be in order: the first greater one counts.
		{parts(of(5), of(1)), of(3), parts(of(3), of(5), of(1))}, {parts(of(1), of(5), of(2)), of(3), parts(of(1), of(3), of(5), of(2))}, {parts(of(3), of(1)), of(3), parts(of(3), of(1), of(3))},
		{parts(of(1), of(5), of(1), of(5)), of(1), parts(of(1), of(1), of(5), of(1), of(5))}, {parts(of(1)), parts(of(1)), parts(of(1), parts(of(1)))},
		{line(1), line(7), line(8)}, {star(95), api.Thing{}, star(96)}, {star(48), star(48), api.Thing{Parts: append(make([]api.Thing, 47), star(48))}},
	} {
		if x, e := With(c.x, c.part); e != api.OK || !equal(x, c.want) {
			t.Errorf("case %d: %v, %d", i, x, e)
		}
		bothCalls(t, c.x, c.part)
	}
}

// P6.6: the errors in their order.
func TestWithErrors(t *testing.T) {
	wrong, large, deep := of(-1), star(97), line(9)
	for i, c := range []struct {
		x, part api.Thing
		want    api.Errno
	}{
		{wrong, deep, api.ErrArg}, {wrong, large, api.ErrArg}, {deep, wrong, api.ErrLimit}, {large, wrong, api.ErrLimit}, {wrong, of(1), api.ErrArg}, {of(1), wrong, api.ErrArg}, {deep, of(1), api.ErrLimit}, {of(1), large, api.ErrLimit},
		{line(3), of(64), api.ErrArg}, {star(96), of(64), api.ErrArg}, {of(64), star(96), api.ErrArg}, {line(1), line(8), api.ErrLimit}, {star(96), api.Thing{}, api.ErrLimit}, {star(49), star(48), api.ErrLimit}, {line(8), line(7), api.OK}, {line(7), line(8), api.ErrLimit},
		{having(val(1, 1, 65537)), deep, api.ErrArg}, {api.Thing{}, having(val(1, 2, 2)), api.ErrArg}, {of(2, 1), api.Thing{}, api.ErrArg},
	} {
		if x, e := With(c.x, c.part); e != c.want || e != api.OK && !zero(x) {
			t.Errorf("case %d: %v, %d", i, x, e)
		}
		bothCalls(t, c.x, c.part)
	}
}

// P6.7: bytes that were worked out by hand.
func TestEncode(t *testing.T) {
	for i, c := range []struct {
		x    api.Thing
		want []byte
	}{
		{api.Thing{}, []byte{0, 0, 0}}, {of(0), []byte{1, 0, 0, 0}}, {of(63), []byte{1, 126, 0, 0}}, {of(1, 2), []byte{2, 2, 4, 0, 0}}, {having(val(0, 0, 1)), []byte{0, 2, 0, 0, 2, 0}}, {having(val(31, -1, 3)), []byte{0, 2, 62, 1, 6, 0}},
		{having(val(1, 64, 1), val(2, 1, 65536)), []byte{0, 4, 2, 128, 1, 2, 4, 2, 128, 128, 8, 0}}, {line(2), []byte{0, 0, 2, 0, 0, 0}}, {line(3), []byte{0, 0, 2, 0, 0, 2, 0, 0, 0}}, {star(3), []byte{0, 0, 4, 0, 0, 0, 0, 0, 0}},
		{api.Thing{Classes: []int{3}, Parts: []api.Thing{of(2), of(1)}}, []byte{1, 6, 0, 4, 1, 4, 0, 0, 1, 2, 0, 0}}, {star(65), append([]byte{0, 0, 128, 1}, make([]byte, 3*64)...)}, {star(96), append([]byte{0, 0, 190, 1}, make([]byte, 3*95)...)},
	} {
		if b, e := Encode(c.x); e != api.OK || !bytes.Equal(b, c.want) {
			t.Errorf("case %d: %v, %d", i, b, e)
		}
		if x, e := Decode(c.want); e != api.OK || !equal(x, c.x) {
			t.Errorf("case %d: %v, %d", i, x, e)
		}
	}
}

// P6.7: what is not the encoding of a valid thing is malformed, also where the wire would want more bytes.
func TestDecode(t *testing.T) {
	far := binary.AppendVarint(nil, math.MaxInt)
	low := binary.AppendVarint(nil, math.MinInt)
	join := func(l ...[]byte) []byte { return bytes.Join(l, nil) }
	for i, b := range [][]byte{
		nil, {}, {0}, {0, 0}, {1, 0, 0}, {0, 0, 2}, {0, 0, 2, 0, 0}, {0, 2, 0, 0, 2}, {0, 2, 0, 0}, {0, 0, 0, 0}, {0, 0, 2, 0, 0, 0, 0}, {0, 1, 0}, {0, 0, 1}, {0, 0, 1, 0, 0, 0}, {0, 3, 0, 0, 0},
		{1, 128, 1, 0, 0}, {1, 1, 0, 0}, {2, 2, 2, 0, 0}, {2, 4, 2, 0, 0}, {0, 2, 64, 0, 2, 0}, {0, 2, 1, 0, 2, 0}, {0, 2, 0, 0, 4, 0}, {0, 2, 0, 2, 0, 0}, {0, 2, 0, 2, 1, 0}, {0, 4, 0, 0, 2, 0, 0, 2, 0}, {0, 4, 2, 0, 2, 0, 0, 2, 0},
		{128, 0, 0, 0}, {0, 128, 0, 0}, {0, 0, 128, 0}, {128}, {0, 2, 0, 128, 0, 2, 0}, {0, 2, 0, 2, 130, 128, 8, 0},
		join(far, []byte{0, 0}), join([]byte{0}, far, []byte{0}), join([]byte{0, 0}, far), join([]byte{0}, low, []byte{0}), join([]byte{0, 0}, low), join([]byte{1}, far, []byte{0, 0}), join([]byte{1}, low, []byte{0, 0}),
		join([]byte{0, 2, 0}, far, []byte{2, 0}), join([]byte{0, 2, 0, 2}, far, []byte{0}), join([]byte{0, 2}, low, []byte{0, 2, 0}), refEncode(line(9)), refEncode(star(97)), refEncode(line(100)), refEncode(doubled(7)), refEncode(doubled(12)),
		refEncode(of(64)), refEncode(of(1, 0)), refEncode(around(7, of(3, 3))), refEncode(having(val(0, 1, 65537))), refEncode(having(val(0, 1<<40+1, 1))), append(refEncode(star(96)), 0), refEncode(star(96))[:287],
	} {
		if x, e := Decode(b); e != api.ErrForm || !zero(x) {
			t.Errorf("case %d: Decode(%v): %v, %d", i, b, x, e)
		}
	}
	var all []api.Value
	for attr := range 33 {
		all = append(all, val(attr, 0, 1))
	}
	if x, e := Decode(refEncode(having(all[:32]...))); e != api.OK || !equal(x, having(all[:32]...)) {
		t.Errorf("32 values: %v, %d", x, e)
	}
	if x, e := Decode(refEncode(having(all...))); e != api.ErrForm || !zero(x) {
		t.Errorf("33 values: %v, %d", x, e)
	}
}

// letters are the bytes of which all short byte slices are examined.
var letters = []byte{0, 1, 2, 3, 4, 6, 128}

// shortThings returns all valid things whose encodings have at most 7 letters. They have at most one value and one part,
// as an encoding has 3 bytes for each node and 3 for each value.
func shortThings() map[string]api.Thing {
	numbers := []int{0, -1, 1, -2, 2, 3, 64, 128, 192, 256, 384}
	single := map[string]api.Thing{}
	for mask := range 16 {
		var x api.Thing
		for c := range 4 {
			if mask>>c&1 == 1 {
				x.Classes = append(x.Classes, c)
			}
		}
		single[string(refEncode(x))] = x
		for attr := range 4 {
			for _, num := range numbers {
				for _, den := range numbers {
					x.Values = []api.Value{val(attr, num, den)}
					single[string(refEncode(x))] = x
				}
			}
		}
	}
	maps.DeleteFunc(single, func(b string, x api.Thing) bool {
		strange := slices.ContainsFunc([]byte(b), func(c byte) bool { return !slices.Contains(letters, c) })
		return len(b) > 7 || strange || refValid(x) != api.OK
	})
	all := maps.Clone(single)
	for b, x := range single {
		for c, p := range single {
			if len(b)+len(c) <= 7 {
				y := api.Thing{Classes: x.Classes, Values: x.Values, Parts: []api.Thing{p}}
				all[string(refEncode(y))] = y
			}
		}
	}
	return all
}

// P6.7: of all short byte slices with some letters, those are decoded that are encodings of valid things.
func TestDecodeEvery(t *testing.T) {
	known := shortThings()
	found := 0
	var extend func(b []byte, left int)
	extend = func(b []byte, left int) {
		x, e := Decode(b)
		want, ok := known[string(b)]
		if ok && (e != api.OK || !equal(x, want)) || !ok && (e != api.ErrForm || !zero(x)) {
			t.Fatalf("Decode(%v): %v, %d", b, x, e)
		}
		if ok {
			found++
		}
		if left == 0 {
			return
		}
		for _, c := range letters {
			extend(append(b, c), left-1)
		}
	}
	extend(nil, 7)
	if found != len(known) || found < 100 {
		t.Errorf("%d of %d things", found, len(known))
	}
}

// P6.7: an encoding that is cut off, made longer or changed is another one or none.
func TestDecodeSpoiled(t *testing.T) {
	rnd := rand.New(rand.NewSource(61))
	for range 150 {
		b := refEncode(someThing(rnd, 1+rnd.Intn(12)))
		l := [][]byte{append(slices.Clone(b), 0), append(slices.Clone(b), b...)}
		for i := range b {
			l = append(l, b[:i])
			for range 10 {
				c := slices.Clone(b)
				c[i] = byte(rnd.Intn(256) >> rnd.Intn(8))
				l = append(l, c)
			}
		}
		for _, c := range l {
			x, e := Decode(c)
			if e != api.OK && (e != api.ErrForm || !zero(x)) || e == api.OK && (refValid(x) != api.OK || !bytes.Equal(refEncode(x), c)) {
				t.Fatalf("Decode(%v): %v, %d", c, x, e)
			}
		}
	}
}

// P6.1 to P6.7: all small things, and all pairs of some of them, as the reference has them.
func TestEvery(t *testing.T) {
	l := middle()
	for _, x := range l {
		everyCall(t, x)
	}
	for i, a := range l {
		for k := i % 7; k < len(l); k += 7 {
			bothCalls(t, a, l[k])
		}
	}
	for _, a := range small() {
		for _, b := range small() {
			bothCalls(t, a, b)
		}
	}
}

// P6.1 to P6.7: random things, and ones that were changed so that most are no longer valid, as the reference has them.
func TestRandom(t *testing.T) {
	rnd := rand.New(rand.NewSource(62))
	count := map[api.Errno]int{}
	for i := range 1500 {
		a := someThing(rnd, 1+rnd.Intn(1+i%96))
		if Valid(a) != api.OK {
			t.Fatalf("%v is not valid", a)
		}
		b := spoiled(rnd, a)
		c := someThing(rnd, 1+rnd.Intn(20))
		for _, x := range []api.Thing{a, b, c} {
			everyCall(t, x)
		}
		for _, p := range [][2]api.Thing{{a, a}, {a, b}, {b, a}, {a, c}, {c, b}, {c, c}} {
			bothCalls(t, p[0], p[1])
		}
		_, e := Normal(b)
		count[Valid(b)]++
		count[e]++
	}
	for _, e := range []api.Errno{api.OK, api.ErrArg, api.ErrLimit, api.ErrTwice} {
		if count[e] < 20 {
			t.Errorf("%d things with the error %d", count[e], e)
		}
	}
}

// P6.8: a total order, also of things that are not valid.
func TestOrder(t *testing.T) {
	l := append(increasingThings(), small()...)
	rnd := rand.New(rand.NewSource(63))
	for range 40 {
		x := someThing(rnd, 1+rnd.Intn(5))
		l = append(l, x, copied(x), spoiled(rnd, x), shuffled(rnd, x))
	}
	for _, a := range l {
		for _, b := range l {
			c := Compare(a, b)
			if c != -Compare(b, a) || c*c > 1 || (c == 0) != bytes.Equal(refEncode(a), refEncode(b)) {
				t.Fatalf("Compare(%v, %v): %d", a, b, c)
			}
			for _, d := range l {
				if c <= 0 && Compare(b, d) <= 0 && Compare(a, d) > 0 {
					t.Fatalf("%v, %v and %v", a, b, d)
				}
			}
		}
	}
}

// inOrder reports whether the parts of all nodes are in increasing order.
func inOrder(x api.Thing) bool {
	for _, p := range places(x) {
		for i := range p.node.Parts {
			if i > 0 && Compare(p.node.Parts[i-1], p.node.Parts[i]) > 0 {
				return false
			}
		}
	}
	return true
}

// P6.9: Normal keeps what is normal, and forgets orders alone.
func TestNormalForms(t *testing.T) {
	rnd := rand.New(rand.NewSource(64))
	for i := range 1500 {
		x := someThing(rnd, 1+rnd.Intn(1+i%96))
		if i%5 == 0 && Size(x) < 40 {
			// Parts that are alike but for their order.
			x.Parts = append(x.Parts, reordered(rnd, api.Thing{Parts: x.Parts}).Parts...)
		}
		n, e := Normal(x)
		if e != api.OK || !inOrder(n) || Size(n) != Size(x) || Deep(n) != Deep(x) {
			t.Fatalf("Normal(%v): %v, %d", x, n, e)
		}
		if m, e := Normal(n); e != api.OK || !equal(m, n) {
			t.Fatalf("Normal(%v): %v, %d", n, m, e)
		}
		if inOrder(x) != equal(x, n) {
			t.Fatalf("Normal(%v): %v", x, n)
		}
		if m, e := Normal(shuffled(rnd, x)); e != api.OK || !equal(m, n) {
			t.Fatalf("%v in another order: %v, %d", x, m, e)
		}
		// The nodes stay what they are, whatever their order.
		if !slices.Equal(labels(x), labels(n)) {
			t.Fatalf("Normal(%v) has other nodes: %v", x, n)
		}
	}
}

// labels returns the classes and values of all nodes, in an order of their own.
func labels(x api.Thing) []string {
	var l []string
	for _, p := range places(x) {
		l = append(l, string(refEncode(api.Thing{Classes: p.node.Classes, Values: p.node.Values})))
	}
	slices.Sort(l)
	return l
}

// P6.10: sizes are added, and parts in order stay in order.
func TestWithForms(t *testing.T) {
	rnd := rand.New(rand.NewSource(65))
	for range 1500 {
		x, _ := Normal(someThing(rnd, 1+rnd.Intn(50)))
		part, _ := Normal(someThing(rnd, 1+rnd.Intn(20)))
		if len(x.Parts) > 0 && rnd.Intn(3) == 0 {
			part = x.Parts[rnd.Intn(len(x.Parts))]
		}
		y, e := With(x, part)
		if Deep(part) == 8 || Size(x)+Size(part) > 96 {
			if e != api.ErrLimit {
				t.Fatalf("With(%v, %v): %d", x, part, e)
			}
			continue
		}
		if e != api.OK || Size(y) != Size(x)+Size(part) || Deep(y) != max(Deep(x), Deep(part)+1) || !inOrder(y) || len(y.Parts) != len(x.Parts)+1 {
			t.Fatalf("With(%v, %v): %v, %d", x, part, y, e)
		}
		// Parts that are added one by one come to the normal form.
		z := api.Thing{Classes: x.Classes, Values: x.Values}
		for _, i := range rnd.Perm(len(y.Parts)) {
			z, e = With(z, y.Parts[i])
			if e != api.OK {
				t.Fatalf("With of %v: %d", y.Parts[i], e)
			}
		}
		if !equal(z, y) {
			t.Fatalf("%v and %v", y, z)
		}
	}
}

// mark overwrites all memory of a thing, also behind its lists, with a number for each list, and adds for each of them a
// function that tells whether it has its number still.
func mark(t *testing.T, x api.Thing, number *int, kept *[]func() bool) {
	for _, p := range x.Parts {
		mark(t, p, number, kept)
	}
	*number++
	n := *number
	classes, values, parts := x.Classes[:cap(x.Classes)], x.Values[:cap(x.Values)], x.Parts[:cap(x.Parts)]
	for i := range classes {
		classes[i] = n
	}
	for i := range values {
		values[i] = val(n, n, n)
	}
	for i := range parts {
		parts[i] = of(n)
	}
	*kept = append(*kept, func() bool {
		return !slices.ContainsFunc(classes, func(c int) bool { return c != n }) &&
			!slices.ContainsFunc(values, func(v api.Value) bool { return v != val(n, n, n) }) &&
			!slices.ContainsFunc(parts, func(p api.Thing) bool { return !equal(p, of(n)) })
	})
}

// R2 and R3: arguments stay what they were, results share no memory with them, nor do the lists of one result.
func TestMemory(t *testing.T) {
	rnd := rand.New(rand.NewSource(66))
	number := 0
	for range 300 {
		x, part := shuffled(rnd, someThing(rnd, 1+rnd.Intn(20))), someThing(rnd, 1+rnd.Intn(10))
		x.Parts = append(make([]api.Thing, 0, 40), x.Parts...)
		x.Classes = append(make([]int, 0, 40), x.Classes...)
		y, z, b := copied(x), copied(part), refEncode(part)
		c := slices.Clone(b)
		var kept []func() bool
		valid, _ := Normal(x)
		again := copied(valid)
		for _, call := range []func() (api.Thing, api.Errno){
			func() (api.Thing, api.Errno) { return Normal(x) },
			func() (api.Thing, api.Errno) { return With(valid, part) },
			func() (api.Thing, api.Errno) { return With(part, part) },
			func() (api.Thing, api.Errno) { return Decode(b) },
		} {
			if r, e := call(); e == api.OK {
				mark(t, r, &number, &kept)
			}
		}
		Valid(x)
		Compare(x, part)
		if code, e := Encode(part); e == api.OK {
			clear(code)
		}
		if !equal(x, y) || !equal(part, z) || !bytes.Equal(b, c) || !equal(valid, again) {
			t.Fatalf("%v and %v changed", y, z)
		}
		for _, ok := range kept {
			if !ok() {
				t.Fatalf("results for %v and %v share memory", y, z)
			}
		}
	}
}

// R1 and R3: nil and empty lists are the same, and memory behind a list does not count.
func TestEmpty(t *testing.T) {
	empty := api.Thing{Classes: []int{}, Values: []api.Value{}, Parts: []api.Thing{}}
	behind := api.Thing{Classes: []int{5, 3}[:0], Values: []api.Value{val(1, 1, 0)}[:0], Parts: []api.Thing{of(-1)}[:0]}
	l := []api.Thing{{}, empty, behind}
	for range 2 {
		for _, a := range l {
			everyCall(t, a)
			if n, e := Normal(a); e != api.OK || !zero(n) {
				t.Errorf("Normal: %v, %d", n, e)
			}
			for _, b := range l {
				if Compare(a, b) != 0 {
					t.Error("nil and empty lists differ")
				}
				bothCalls(t, a, b)
				if x, e := With(api.Thing{Classes: a.Classes, Parts: []api.Thing{a}}, b); e != api.OK || !equal(x, star(3)) {
					t.Errorf("With: %v, %d", x, e)
				}
			}
		}
	}
}

// P1: large things and long inputs, to an end and without a panic.
func TestExtremes(t *testing.T) {
	deep, wide := line(1<<16), star(1<<18)
	many := doubled(100)
	for i, x := range []api.Thing{deep, wide, many, {Classes: []int{-1}, Parts: many.Parts}} {
		if e := Valid(x); e != api.ErrLimit {
			t.Errorf("case %d: Valid: %d", i, e)
		}
		if b, e := Encode(x); e != api.ErrLimit || len(b) > 0 {
			t.Errorf("case %d: Encode: %d", i, e)
		}
		if y, e := With(x, of(-1)); e != api.ErrLimit || !zero(y) {
			t.Errorf("case %d: With: %d", i, e)
		}
		if y, e := With(api.Thing{}, x); e != api.ErrLimit || !zero(y) {
			t.Errorf("case %d: With as a part: %d", i, e)
		}
	}
	for i, x := range []api.Thing{deep, wide} {
		if n, e := Normal(x); e != api.ErrLimit || !zero(n) {
			t.Errorf("case %d: Normal: %d", i, e)
		}
		if Compare(x, x) != 0 || Compare(x, api.Thing{}) != 1 || Compare(api.Thing{}, x) != -1 {
			t.Errorf("case %d: Compare", i)
		}
	}
	if Size(deep) != 1<<16 || Deep(deep) != 1<<16 || Size(wide) != 1<<18 || Deep(wide) != 2 {
		t.Error("sizes")
	}
	long := api.Thing{Classes: make([]int, 1<<18), Values: slices.Repeat([]api.Value{val(7, 1, 2)}, 1<<18)}
	if n, e := Normal(long); e != api.OK || !equal(n, api.Thing{Classes: []int{0}, Values: []api.Value{val(7, 1, 2)}}) || Valid(long) != api.ErrArg {
		t.Errorf("long lists: %v, %d", n, e)
	}
	// The encoding of a line of things that is longer than any valid one.
	if x, e := Decode(append(bytes.Repeat([]byte{0, 0, 2}, 1<<16), 0, 0, 0)); e != api.ErrForm || !zero(x) {
		t.Errorf("Decode of a long line: %d", e)
	}
	for c := range 256 {
		for _, b := range [][]byte{bytes.Repeat([]byte{byte(c)}, 1<<12), bytes.Repeat([]byte{0, 0, byte(c)}, 1<<12), bytes.Repeat([]byte{0, byte(c), 0}, 1<<12)} {
			if x, e := Decode(b); e != api.ErrForm || !zero(x) {
				t.Errorf("Decode of many bytes %d: %d", c, e)
			}
		}
	}
}

// The example of the chapter.
func TestChapterExamples(t *testing.T) {
	x := api.Thing{Classes: []int{2, 5}, Values: []api.Value{val(1, 3, 2)}, Parts: []api.Thing{of(0)}}
	if Size(x) != 2 || Deep(x) != 2 {
		t.Errorf("size %d, nesting %d", Size(x), Deep(x))
	}
	if b, e := Encode(x); e != api.OK || !bytes.Equal(b, []byte{2, 4, 10, 2, 2, 6, 4, 2, 1, 0, 0, 0}) {
		t.Errorf("%v, %d", b, e)
	}
}

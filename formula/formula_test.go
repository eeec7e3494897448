package formula

import (
	"bytes"
	"encoding/binary"
	"maps"
	"math"
	"math/big"
	"math/rand"
	"slices"
	"testing"

	"priorart/api"
	"priorart/taxon"
)

// The reference follows the words of the chapter. It lists the nodes of a formula, compares formulas by keys, finds for
// all nodes of a thing at once whether a formula holds for them, compares numbers with math/big, and writes varints with
// encoding/binary. It shares no code with the package.

// place is a node and its level, which is 1 for the root.
type place struct {
	node  api.Formula
	level int
}

// places returns all nodes.
func places(f api.Formula) []place {
	l := []place{{f, 1}}
	for i := 0; i < len(l); i++ {
		for _, k := range l[i].node.Kids {
			l = append(l, place{k, l[i].level + 1})
		}
	}
	return l
}

func refDeep(f api.Formula) int {
	deep := 0
	for _, p := range places(f) {
		deep = max(deep, p.level)
	}
	return deep
}

func rat(r api.Ratio) *big.Rat { return big.NewRat(int64(r.Num), int64(r.Den)) }

// refEnd reports whether one end of an interval is valid.
func refEnd(r api.Ratio, open, inf bool) bool {
	if inf {
		return r.Num == 0 && r.Den == 0 && !open
	}
	if r.Den < 1 || r.Den > 1<<15 || r.Num < -1<<30 || r.Num > 1<<30 {
		return false
	}
	return rat(r).Num().Int64() == int64(r.Num) && rat(r).Denom().Int64() == int64(r.Den)
}

// refSet reports whether intervals are a set.
func refSet(l []api.Interval) bool {
	for i, x := range l {
		if !refEnd(x.Lo, x.LoOpen, x.LoInf) || !refEnd(x.Hi, x.HiOpen, x.HiInf) {
			return false
		}
		if !x.LoInf && !x.HiInf {
			if c := rat(x.Lo).Cmp(rat(x.Hi)); c > 0 || c == 0 && (x.LoOpen || x.HiOpen) {
				return false
			}
		}
		if i > 0 {
			y := l[i-1]
			if y.HiInf || x.LoInf {
				return false
			}
			if c := rat(y.Hi).Cmp(rat(x.Lo)); c > 0 || c == 0 && !(y.HiOpen && x.LoOpen) {
				return false
			}
		}
	}
	return len(l) <= 32
}

func refValid(f api.Formula) api.Errno {
	l := places(f)
	if len(l) > 96 || refDeep(f) > 8 {
		return api.ErrLimit
	}
	for _, p := range l {
		g := p.node
		numbers := map[int]int{api.OpTrue: 1, api.OpClass: 64, api.OpValue: 32, api.OpPart: 1, api.OpAnd: 1, api.OpOr: 1, api.OpNot: 1}[g.Op]
		if g.N < 0 || g.N >= numbers {
			return api.ErrArg
		}
		if g.Op == api.OpValue && !refSet(g.In) || g.Op != api.OpValue && len(g.In) > 0 {
			return api.ErrArg
		}
		if slices.Contains([]int{api.OpTrue, api.OpClass, api.OpValue}, g.Op) && len(g.Kids) != 0 || slices.Contains([]int{api.OpPart, api.OpNot}, g.Op) && len(g.Kids) != 1 {
			return api.ErrArg
		}
	}
	return api.OK
}

func number(b bool) int {
	if b {
		return 1
	}
	return 0
}

// key returns a list of numbers whose order is that of formulas: what comes first is compared first, and lists of
// different lengths differ in their lengths already.
func key(f api.Formula) []int {
	k := []int{f.Op, f.N, len(f.In)}
	for _, x := range f.In {
		k = append(k, number(x.LoInf), number(x.LoOpen), x.Lo.Num, x.Lo.Den, number(x.HiInf), number(x.HiOpen), x.Hi.Num, x.Hi.Den)
	}
	k = append(k, len(f.Kids))
	for _, g := range f.Kids {
		k = append(k, key(g)...)
	}
	return k
}

func same(a, b api.Formula) bool { return slices.Equal(key(a), key(b)) }

// nothing reports whether a formula is the zero value.
func nothing(f api.Formula) bool { return same(f, api.Formula{}) }

// scene is a taxonomy, with the parents of its classes, and the nodes of a thing, with the places of their parts.
type scene struct {
	x       *taxon.Taxon
	parents [][]int
	things  []api.Thing
	parts   [][]int
}

func sceneOf(t *testing.T, parents [][]int, root api.Thing) scene {
	x, e := taxon.New(parents)
	if e != api.OK {
		t.Fatal(e)
	}
	s := scene{x: x, parents: parents, things: []api.Thing{root}}
	for i := 0; i < len(s.things); i++ {
		var l []int
		for _, p := range s.things[i].Parts {
			l = append(l, len(s.things))
			s.things = append(s.things, p)
		}
		s.parts = append(s.parts, l)
	}
	return s
}

// isA reports whether class c is d or inherits from it.
func (s scene) isA(c, d int) bool {
	return c == d || slices.ContainsFunc(s.parents[c], func(p int) bool { return s.isA(p, d) })
}

// inside reports whether a set has a number.
func inside(l []api.Interval, r api.Ratio) bool {
	return slices.ContainsFunc(l, func(x api.Interval) bool {
		above := x.LoInf || rat(r).Cmp(rat(x.Lo)) > 0 || rat(r).Cmp(rat(x.Lo)) == 0 && !x.LoOpen
		below := x.HiInf || rat(r).Cmp(rat(x.Hi)) < 0 || rat(r).Cmp(rat(x.Hi)) == 0 && !x.HiOpen
		return above && below
	})
}

// basic reports whether a formula without kids holds for a node of the thing.
func (s scene) basic(f api.Formula, t api.Thing) bool {
	found := f.Op == api.OpTrue
	for _, c := range t.Classes {
		found = found || f.Op == api.OpClass && s.isA(c, f.N)
	}
	for _, v := range t.Values {
		found = found || f.Op == api.OpValue && v.Attr == f.N && inside(f.In, v.N)
	}
	return found
}

// table returns for each node of the thing whether a formula holds for it.
func (s scene) table(f api.Formula) []bool {
	var kids [][]bool
	for _, k := range f.Kids {
		kids = append(kids, s.table(k))
	}
	l := make([]bool, len(s.things))
	for i, t := range s.things {
		yes := 0
		for _, k := range kids {
			yes += number(k[i])
		}
		switch f.Op {
		case api.OpPart:
			for _, p := range s.parts[i] {
				l[i] = l[i] || kids[0][p]
			}
		case api.OpAnd:
			l[i] = yes == len(kids)
		case api.OpOr:
			l[i] = yes > 0
		case api.OpNot:
			l[i] = yes == 0
		default:
			l[i] = s.basic(f, t)
		}
	}
	return l
}

// refHolds is for valid things.
func (s scene) refHolds(f api.Formula) (bool, api.Errno) {
	if e := refValid(f); e != api.OK {
		return false, e
	}
	for _, t := range s.things {
		if len(t.Classes) > 0 && t.Classes[len(t.Classes)-1] >= len(s.parents) {
			return false, api.ErrNone
		}
	}
	for _, p := range places(f) {
		if p.node.Op == api.OpClass && p.node.N >= len(s.parents) {
			return false, api.ErrNone
		}
	}
	return s.table(f)[0], api.OK
}

// refMoved is p of the chapter, and n if turned is true.
func refMoved(f api.Formula, turned bool) api.Formula {
	if f.Op == api.OpNot {
		return refMoved(f.Kids[0], !turned)
	}
	inner := turned && (f.Op == api.OpAnd || f.Op == api.OpOr)
	m := api.Formula{Op: f.Op, N: f.N, In: f.In}
	for _, k := range f.Kids {
		m.Kids = append(m.Kids, refMoved(k, inner))
	}
	if !turned {
		return m
	}
	switch {
	case f.Op == api.OpTrue:
		return no
	case f.Op == api.OpOr && len(f.Kids) == 0:
		return yes
	case f.Op == api.OpAnd:
		m.Op = api.OpOr
		return m
	case f.Op == api.OpOr:
		m.Op = api.OpAnd
		return m
	}
	return of(api.OpNot, m)
}

func refPush(f api.Formula) (api.Formula, api.Errno) {
	if e := refValid(f); e != api.OK {
		return api.Formula{}, e
	}
	m := refMoved(f, false)
	if refValid(m) != api.OK {
		return api.Formula{}, api.ErrLimit
	}
	return m, api.OK
}

// refJoined is what becomes of OpAnd and OpOr of simple kids. The kids that are left are values of a map, by their
// encodings.
func refJoined(op int, kids []api.Formula) api.Formula {
	var flat []api.Formula
	for _, k := range kids {
		if k.Op == op {
			flat = append(flat, k.Kids...)
		} else {
			flat = append(flat, k)
		}
	}
	left := map[string]api.Formula{}
	for _, k := range flat {
		if op == api.OpAnd && same(k, no) || op == api.OpOr && same(k, yes) {
			return k
		}
		if op == api.OpOr || !same(k, yes) {
			left[string(refEncode(k))] = k
		}
	}
	l := slices.SortedFunc(maps.Values(left), func(a, b api.Formula) int { return slices.Compare(key(a), key(b)) })
	if len(l) == 1 {
		return l[0]
	}
	if op == api.OpAnd && len(l) == 0 {
		return yes
	}
	return of(op, l...)
}

// refSimple is s of the chapter.
func refSimple(f api.Formula) api.Formula {
	var kids []api.Formula
	for _, k := range f.Kids {
		kids = append(kids, refSimple(k))
	}
	s := api.Formula{Op: f.Op, N: f.N, In: f.In, Kids: kids}
	switch f.Op {
	case api.OpValue:
		if len(f.In) == 0 {
			return no
		}
	case api.OpPart:
		if same(kids[0], no) {
			return no
		}
	case api.OpNot:
		if same(kids[0], yes) {
			return no
		}
		if same(kids[0], no) {
			return yes
		}
		if kids[0].Op == api.OpNot {
			return kids[0].Kids[0]
		}
	case api.OpAnd, api.OpOr:
		return refJoined(f.Op, kids)
	}
	return s
}

// refEncode is for any formula, also one that is not valid.
func refEncode(f api.Formula) []byte {
	b := binary.AppendVarint(nil, int64(f.Op))
	b = binary.AppendVarint(b, int64(f.N))
	b = binary.AppendVarint(b, int64(len(f.In)))
	for _, x := range f.In {
		b = binary.AppendUvarint(b, 8)
		for _, n := range []int{x.Lo.Num, x.Lo.Den, x.Hi.Num, x.Hi.Den, number(x.LoOpen), number(x.HiOpen), number(x.LoInf), number(x.HiInf)} {
			b = binary.AppendVarint(b, int64(n))
		}
	}
	b = binary.AppendVarint(b, int64(len(f.Kids)))
	for _, k := range f.Kids {
		b = append(b, refEncode(k)...)
	}
	return b
}

var yes, no = api.Formula{}, api.Formula{Op: api.OpOr}

func of(op int, kids ...api.Formula) api.Formula { return api.Formula{Op: op, Kids: kids} }

func and(kids ...api.Formula) api.Formula { return of(api.OpAnd, kids...) }

func or(kids ...api.Formula) api.Formula { return of(api.OpOr, kids...) }

func non(f api.Formula) api.Formula { return of(api.OpNot, f) }

func part(f api.Formula) api.Formula { return of(api.OpPart, f) }

func class(n int) api.Formula { return api.Formula{Op: api.OpClass, N: n} }

func value(attr int, in ...api.Interval) api.Formula {
	return api.Formula{Op: api.OpValue, N: attr, In: in}
}

func ratio(num, den int) api.Ratio { return api.Ratio{Num: num, Den: den} }

// closed returns the interval from a to b, which are whole numbers, with both ends.
func closed(a, b int) api.Interval { return api.Interval{Lo: ratio(a, 1), Hi: ratio(b, 1)} }

// all is the interval of all numbers.
var all = api.Interval{LoInf: true, HiInf: true}

// apart returns some intervals that are a set, if there are not too many.
func apart(count int) []api.Interval {
	var l []api.Interval
	for i := range count {
		l = append(l, closed(2*i, 2*i+1))
	}
	return l
}

// around returns f within some nodes with an operation.
func around(levels, op int, f api.Formula) api.Formula {
	for range levels {
		f = of(op, f)
	}
	return f
}

// star returns OpAnd of so many formulas that it has some nodes.
func star(nodes int) api.Formula { return and(make([]api.Formula, nodes-1)...) }

// doubled returns a formula with 2^levels - 1 nodes.
func doubled(levels int) api.Formula {
	f := class(1)
	for range levels - 1 {
		f = or(f, f)
	}
	return f
}

// copied returns a copy that shares no memory.
func copied(f api.Formula) api.Formula {
	c := api.Formula{Op: f.Op, N: f.N, In: append([]api.Interval{}, f.In...)}
	for _, k := range f.Kids {
		c.Kids = append(c.Kids, copied(k))
	}
	return c
}

// everyCall compares all calls for a formula alone with the reference.
func everyCall(t *testing.T, f api.Formula) {
	t.Helper()
	want := refValid(f)
	if e := Valid(f); e != want {
		t.Fatalf("Valid(%v): %d instead of %d", f, e, want)
	}
	if Size(f) != len(places(f)) || Deep(f) != refDeep(f) {
		t.Fatalf("%v: size %d, depth %d", f, Size(f), Deep(f))
	}
	p, e := Push(f)
	if q, g := refPush(f); e != g || !same(p, q) {
		t.Fatalf("Push(%v): %v, %d instead of %v, %d", f, p, e, q, g)
	}
	s, e := Simple(f)
	if e != want || e != api.OK && !nothing(s) || e == api.OK && !same(s, refSimple(f)) {
		t.Fatalf("Simple(%v): %v, %d", f, s, e)
	}
	b, e := Encode(f)
	if e != want || e != api.OK && len(b) > 0 || e == api.OK && !bytes.Equal(b, refEncode(f)) {
		t.Fatalf("Encode(%v): %v, %d", f, b, e)
	}
	g, e := Decode(refEncode(f))
	if want == api.OK && (e != api.OK || !same(f, g)) || want != api.OK && (e != api.ErrForm || !nothing(g)) {
		t.Fatalf("Decode of %v: %v, %d", f, g, e)
	}
}

// inScenes compares Holds with the reference.
func inScenes(t *testing.T, f api.Formula, l []scene) {
	t.Helper()
	for _, s := range l {
		is, e := Holds(s.x, f, s.things[0])
		if want, g := s.refHolds(f); is != want || e != g {
			t.Fatalf("Holds(%v, %v): %v, %d instead of %v, %d", f, s.things[0], is, e, want, g)
		}
	}
}

// meansIn returns whether f holds in each of some scenes.
func meansIn(t *testing.T, f api.Formula, l []scene) []bool {
	t.Helper()
	var m []bool
	for _, s := range l {
		is, e := Holds(s.x, f, s.things[0])
		if e != api.OK {
			t.Fatalf("Holds(%v, %v): %d", f, s.things[0], e)
		}
		m = append(m, is)
	}
	return m
}

// forms checks for a valid formula what P7.7 and P7.9 say of its forms. If Push returns ErrLimit, it says nothing of it.
func forms(t *testing.T, f api.Formula, l []scene) {
	t.Helper()
	meaning := meansIn(t, f, l)
	s, e := Simple(f)
	if e != api.OK || !slices.Equal(meansIn(t, s, l), meaning) || Size(s) > Size(f) || Deep(s) > Deep(f) {
		t.Fatalf("Simple(%v): %v, %d", f, s, e)
	}
	if again, e := Simple(s); e != api.OK || !same(again, s) {
		t.Fatalf("Simple(%v): %v, %d", s, again, e)
	}
	p, e := Push(f)
	if e == api.ErrLimit {
		return
	}
	if e != api.OK || !slices.Equal(meansIn(t, p, l), meaning) {
		t.Fatalf("Push(%v): %v, %d", f, p, e)
	}
	for _, q := range places(p) {
		if q.node.Op == api.OpNot && !slices.Contains([]int{api.OpClass, api.OpValue, api.OpPart}, q.node.Kids[0].Op) {
			t.Fatalf("Push(%v): %v", f, p)
		}
	}
	if again, e := Push(p); e != api.OK || !same(again, p) {
		t.Fatalf("Push(%v): %v, %d", p, again, e)
	}
}

// leaves are formulas without kids.
func leaves() []api.Formula {
	return []api.Formula{yes, no, and(), class(0), class(1), value(0), value(0, closed(1, 2)), value(1, all)}
}

// over returns all formulas with an operation and one or two kids of a list.
func over(l []api.Formula) []api.Formula {
	var up []api.Formula
	for i, f := range l {
		up = append(up, non(f), part(f), and(f), or(f))
		for _, g := range l[:i+1] {
			up = append(up, and(f, g), or(f, g), and(g, f), or(g, f))
		}
	}
	return up
}

// middle returns all formulas of up to two levels over the leaves, and some of three.
func middle() []api.Formula {
	low := append(leaves(), over(leaves())...)
	var few []api.Formula
	for i := 0; i < len(low); i += 5 {
		few = append(few, low[i])
	}
	return append(low, over(few)...)
}

// diamond is a taxonomy: 1 and 2 inherit from 0, and 3 from both.
var diamond = [][]int{nil, {0}, {0}, {1, 2}}

// having returns a thing of some classes with some parts.
func having(classes []int, parts ...api.Thing) api.Thing {
	return api.Thing{Classes: classes, Parts: parts}
}

func val(attr, num, den int) api.Value { return api.Value{Attr: attr, N: ratio(num, den)} }

// scenes returns some things under two taxonomies.
func scenes(t *testing.T) []scene {
	valued := api.Thing{Classes: []int{1}, Values: []api.Value{val(0, 3, 2), val(1, -7, 1)}}
	two := api.Thing{Values: []api.Value{val(0, 2, 1)}, Parts: []api.Thing{valued}}
	var l []scene
	for _, parents := range [][][]int{diamond, {{1}, nil, nil, nil}} {
		for _, x := range []api.Thing{{}, having([]int{0}), having([]int{1}), having([]int{2, 3}), valued, two, having(nil, having([]int{0}), two), having([]int{1}, having([]int{3}), api.Thing{}), having([]int{0, 1}, having(nil, valued))} {
			l = append(l, sceneOf(t, parents, x))
		}
	}
	return l
}

// someRatio returns a small ratio.
func someRatio(rnd *rand.Rand) api.Ratio {
	r := ratio(rnd.Intn(1<<rnd.Intn(31))-rnd.Intn(1<<rnd.Intn(31)), 1<<rnd.Intn(16))
	for r.Den > 1 && r.Num%2 == 0 {
		r = ratio(r.Num/2, r.Den/2)
	}
	return r
}

// someSet returns a set of few intervals.
func someSet(rnd *rand.Rand) []api.Interval {
	var cuts []api.Ratio
	for range rnd.Intn(7) {
		r := ratio(rnd.Intn(9)-4, 1)
		if rnd.Intn(3) == 0 {
			r = someRatio(rnd)
		}
		cuts = append(cuts, r)
	}
	slices.SortFunc(cuts, func(a, b api.Ratio) int { return rat(a).Cmp(rat(b)) })
	cuts = slices.Compact(cuts)
	var l []api.Interval
	for i := 0; i+1 < len(cuts); i += 2 {
		l = append(l, api.Interval{Lo: cuts[i], Hi: cuts[i+1], LoOpen: rnd.Intn(2) == 0, HiOpen: rnd.Intn(2) == 0})
	}
	if len(l) == 0 {
		return [][]api.Interval{nil, {all}, {closed(1, 1)}}[rnd.Intn(3)]
	}
	if rnd.Intn(3) == 0 {
		l[0].Lo, l[0].LoOpen, l[0].LoInf = api.Ratio{}, false, true
	}
	if last := &l[len(l)-1]; rnd.Intn(3) == 0 {
		last.Hi, last.HiOpen, last.HiInf = api.Ratio{}, false, true
	}
	return l
}

// someLeaf returns a formula without kids, of few classes and attributes.
func someLeaf(rnd *rand.Rand) api.Formula {
	switch rnd.Intn(8) {
	case 0:
		return []api.Formula{yes, no, and()}[rnd.Intn(3)]
	case 1, 2, 3:
		return value(rnd.Intn(3), someSet(rnd)...)
	}
	return class(rnd.Intn(4))
}

// someFormula returns a valid formula of at most the given nodes and levels; without OpNot, if plain is true.
func someFormula(rnd *rand.Rand, nodes, levels int, plain bool) api.Formula {
	if nodes <= 1 || levels <= 1 {
		return someLeaf(rnd)
	}
	ops := []int{api.OpPart, api.OpAnd, api.OpOr, api.OpAnd, api.OpOr, api.OpNot}
	if plain {
		ops = ops[:5]
	}
	f := of(ops[rnd.Intn(len(ops))])
	if f.Op == api.OpPart || f.Op == api.OpNot {
		f.Kids = []api.Formula{someFormula(rnd, nodes-1, levels-1, plain)}
		return f
	}
	for left := nodes - 1; left > 0; {
		k := someFormula(rnd, 1+rnd.Intn(left), levels-1, plain)
		f.Kids = append(f.Kids, k)
		left -= len(places(k))
		if rnd.Intn(12) == 0 {
			f.Kids = append(f.Kids, f.Kids[rnd.Intn(len(f.Kids))])
			left -= len(places(f.Kids[len(f.Kids)-1]))
			if left < 0 {
				f.Kids = f.Kids[:len(f.Kids)-1]
			}
		}
	}
	return f
}

// someThing returns a valid thing of few classes and attributes.
func someThing(rnd *rand.Rand, levels int) api.Thing {
	var x api.Thing
	for c := range 4 {
		if rnd.Intn(3) == 0 {
			x.Classes = append(x.Classes, c)
		}
	}
	for attr := range 3 {
		if rnd.Intn(2) == 0 {
			x.Values = append(x.Values, api.Value{Attr: attr, N: []api.Ratio{ratio(rnd.Intn(9)-4, 1), ratio(2*rnd.Intn(9)-9, 2), someRatio(rnd)}[rnd.Intn(3)]})
		}
	}
	if levels > 1 {
		for range rnd.Intn(4) {
			x.Parts = append(x.Parts, someThing(rnd, levels-1))
		}
	}
	return x
}

// someScenes returns random things under random taxonomies of four classes.
func someScenes(t *testing.T, rnd *rand.Rand, count int) []scene {
	var l []scene
	for range count {
		order := rnd.Perm(4)
		parents := make([][]int, 4)
		for i, c := range order {
			for _, p := range order[:i] {
				if rnd.Intn(3) == 0 {
					parents[c] = append(parents[c], p)
				}
			}
			slices.Sort(parents[c])
		}
		l = append(l, sceneOf(t, parents, someThing(rnd, 1+rnd.Intn(4))))
	}
	return l
}

// someNode returns a node of a formula, to be changed.
func someNode(rnd *rand.Rand, f *api.Formula) *api.Formula {
	for len(f.Kids) > 0 && rnd.Intn(4) > 0 {
		f = &f.Kids[rnd.Intn(len(f.Kids))]
	}
	return f
}

// spoiled changes a node so that the formula is perhaps no longer valid.
func spoiled(rnd *rand.Rand, f api.Formula) api.Formula {
	s := copied(f)
	n := someNode(rnd, &s)
	switch rnd.Intn(8) {
	case 0:
		n.Op = []int{-1, 0, 1, 2, 3, 4, 5, 6, 7, math.MaxInt, math.MinInt}[rnd.Intn(11)]
	case 1:
		n.N = []int{-1, 0, 1, 31, 32, 63, 64, math.MaxInt, math.MinInt}[rnd.Intn(9)]
	case 2:
		n.In = append(n.In, closed(rnd.Intn(9), rnd.Intn(9)))
	case 3:
		n.In = append(n.In, n.In...)
	case 4:
		n.Kids = append(n.Kids, yes)
	case 5:
		n.Kids = nil
	case 6:
		n.Kids = append(n.Kids, around(1+rnd.Intn(8), api.OpNot, yes), star(1+rnd.Intn(90)))
	case 7:
		n.Op, n.In = api.OpValue, apart(rnd.Intn(40))
	}
	return s
}

// P7.1: cases that were worked out by hand, as the root, as a kid between others, and as the deepest node.
func TestValid(t *testing.T) {
	in := []api.Interval{closed(1, 2)}
	open := func(f func(x *api.Interval)) api.Formula {
		x := closed(1, 2)
		f(&x)
		return value(0, x)
	}
	for i, c := range []struct {
		f    api.Formula
		want api.Errno
	}{
		{yes, api.OK}, {no, api.OK}, {and(), api.OK}, {class(0), api.OK}, {class(63), api.OK}, {class(64), api.ErrArg}, {class(-1), api.ErrArg}, {class(math.MaxInt), api.ErrArg}, {class(math.MinInt), api.ErrArg},
		{value(0), api.OK}, {value(31), api.OK}, {value(31, all), api.OK}, {value(32), api.ErrArg}, {value(-1), api.ErrArg}, {value(63, all), api.ErrArg}, {value(math.MinInt), api.ErrArg}, {value(math.MaxInt), api.ErrArg},
		{value(0, closed(1, 2), closed(3, 4)), api.OK}, {value(0, closed(1, 2), closed(2, 4)), api.ErrArg}, {value(0, closed(3, 4), closed(1, 2)), api.ErrArg}, {value(0, closed(2, 1)), api.ErrArg}, {value(0, closed(2, 2)), api.OK}, {value(0, all, all), api.ErrArg},
		{value(0, apart(32)...), api.OK}, {value(0, apart(33)...), api.ErrArg}, {value(0, apart(500)...), api.ErrArg}, {value(0, api.Interval{}), api.ErrArg},
		{open(func(x *api.Interval) { x.LoOpen, x.HiOpen = true, true }), api.OK}, {open(func(x *api.Interval) { x.LoInf = true }), api.ErrArg}, {open(func(x *api.Interval) { x.HiInf, x.Hi = true, ratio(0, 0) }), api.OK},
		{open(func(x *api.Interval) { x.HiInf, x.Hi, x.HiOpen = true, ratio(0, 0), true }), api.ErrArg}, {open(func(x *api.Interval) { x.Hi = ratio(4, 2) }), api.ErrArg}, {open(func(x *api.Interval) { x.Hi = ratio(1<<30+1, 1) }), api.ErrArg},
		{part(yes), api.OK}, {non(yes), api.OK}, {part(no), api.OK}, {of(api.OpPart), api.ErrArg}, {of(api.OpNot), api.ErrArg}, {of(api.OpPart, yes, yes), api.ErrArg}, {of(api.OpNot, yes, yes), api.ErrArg},
		{and(yes), api.OK}, {or(yes), api.OK}, {and(yes, no, yes), api.OK}, {or(no, no, class(5)), api.OK}, {of(api.OpTrue, yes), api.ErrArg}, {of(api.OpClass, yes), api.ErrArg}, {of(api.OpValue, yes), api.ErrArg}, {of(api.OpValue, yes, yes), api.ErrArg},
		{of(7), api.ErrArg}, {of(-1), api.ErrArg}, {of(7, yes), api.ErrArg}, {of(math.MaxInt), api.ErrArg}, {of(math.MinInt), api.ErrArg},
		{api.Formula{Op: api.OpTrue, N: 1}, api.ErrArg}, {api.Formula{Op: api.OpTrue, N: -1}, api.ErrArg}, {api.Formula{Op: api.OpTrue, In: in}, api.ErrArg}, {api.Formula{Op: api.OpClass, In: in}, api.ErrArg},
		{api.Formula{Op: api.OpPart, N: 1, Kids: []api.Formula{yes}}, api.ErrArg}, {api.Formula{Op: api.OpPart, In: in, Kids: []api.Formula{yes}}, api.ErrArg}, {api.Formula{Op: api.OpNot, N: -1, Kids: []api.Formula{yes}}, api.ErrArg}, {api.Formula{Op: api.OpNot, In: in, Kids: []api.Formula{yes}}, api.ErrArg},
		{api.Formula{Op: api.OpAnd, N: 1}, api.ErrArg}, {api.Formula{Op: api.OpAnd, In: in}, api.ErrArg}, {api.Formula{Op: api.OpOr, N: -1}, api.ErrArg}, {api.Formula{Op: api.OpOr, In: in}, api.ErrArg}, {api.Formula{Op: api.OpOr, N: 1, Kids: []api.Formula{yes}}, api.ErrArg},
		{and(class(64), yes), api.ErrArg}, {and(yes, class(64)), api.ErrArg}, {or(and(), or(of(9))), api.ErrArg},
	} {
		deepest := around(8-refDeep(c.f), api.OpNot, c.f)
		for _, f := range []api.Formula{c.f, and(class(1), c.f, value(0)), part(c.f), deepest} {
			if e := Valid(f); e != c.want || e != refValid(f) {
				t.Errorf("case %d: %v: %d", i, f, e)
			}
			everyCall(t, f)
		}
	}
}

// P7.1: the limits of size and depth, and one beyond; ErrLimit comes before ErrArg.
func TestLimits(t *testing.T) {
	nodes := func(count int, f api.Formula) []api.Formula { return slices.Repeat([]api.Formula{f}, count) }
	full := value(31, apart(32)...)
	for i, c := range []struct {
		f    api.Formula
		want api.Errno
	}{
		{star(95), api.OK}, {star(96), api.OK}, {star(97), api.ErrLimit}, {star(5000), api.ErrLimit}, {around(6, api.OpNot, yes), api.OK}, {around(7, api.OpNot, yes), api.OK}, {around(8, api.OpNot, yes), api.ErrLimit}, {around(96, api.OpNot, yes), api.ErrLimit},
		{around(7, api.OpPart, class(1)), api.OK}, {around(8, api.OpPart, class(1)), api.ErrLimit}, {around(7, api.OpAnd, class(1)), api.OK}, {around(8, api.OpOr, class(1)), api.ErrLimit}, {around(7, api.OpOr, no), api.OK}, {around(8, api.OpOr, no), api.ErrLimit},
		{and(around(6, api.OpNot, yes), yes), api.OK}, {and(yes, around(7, api.OpNot, yes)), api.ErrLimit}, {and(around(7, api.OpNot, yes), yes), api.ErrLimit},
		{non(star(95)), api.OK}, {non(star(96)), api.ErrLimit}, {around(6, api.OpPart, star(90)), api.OK}, {around(6, api.OpPart, star(91)), api.ErrLimit}, {around(7, api.OpPart, star(2)), api.ErrLimit},
		{doubled(6), api.OK}, {doubled(7), api.ErrLimit}, {doubled(8), api.ErrLimit}, {doubled(9), api.ErrLimit}, {or(star(48), star(47)), api.OK}, {or(star(48), star(48)), api.ErrLimit},
		{and(append(nodes(47, yes), star(48))...), api.OK}, {and(append(nodes(48, yes), star(48))...), api.ErrLimit}, {and(nodes(95, full)...), api.OK}, {and(nodes(96, full)...), api.ErrLimit},
		{and(nodes(95, class(64))...), api.ErrArg}, {and(nodes(96, class(64))...), api.ErrLimit}, {and(append(nodes(94, yes), of(-1))...), api.ErrArg}, {and(append(nodes(95, yes), of(-1))...), api.ErrLimit}, {and(append([]api.Formula{of(-1)}, nodes(95, yes)...)...), api.ErrLimit},
		{of(9, nodes(95, yes)...), api.ErrArg}, {of(9, nodes(96, yes)...), api.ErrLimit}, {of(api.OpTrue, nodes(96, yes)...), api.ErrLimit}, {of(api.OpNot, nodes(96, yes)...), api.ErrLimit}, {of(api.OpTrue, around(7, api.OpNot, yes)), api.ErrLimit},
		{around(7, api.OpTrue, yes), api.ErrArg}, {around(8, api.OpTrue, yes), api.ErrLimit}, {around(7, api.OpNot, class(64)), api.ErrArg}, {around(8, api.OpNot, class(64)), api.ErrLimit}, {or(class(64), around(7, api.OpNot, yes)), api.ErrLimit},
	} {
		if e := Valid(c.f); e != c.want {
			t.Errorf("case %d: %d", i, e)
		}
		everyCall(t, c.f)
	}
	for i, c := range []struct {
		f          api.Formula
		size, deep int
	}{{yes, 1, 1}, {non(yes), 2, 2}, {and(yes, part(yes), no), 5, 3}, {or(part(non(class(1))), part(yes)), 6, 4}, {star(97), 97, 2}, {around(20, api.OpNot, yes), 21, 21}, {doubled(10), 1023, 10}, {of(-5, of(77, yes), yes), 4, 3}} {
		if Size(c.f) != c.size || Deep(c.f) != c.deep {
			t.Errorf("case %d: size %d, depth %d", i, Size(c.f), Deep(c.f))
		}
	}
}

// P7.2: cases that were worked out by hand, for a box of the class 2 with a wheel of the class 1 and a gear of the class
// 3, which has a wheel of the class 1, too.
func TestHolds(t *testing.T) {
	x, _ := taxon.New(diamond)
	wheel := api.Thing{Classes: []int{1}, Values: []api.Value{val(0, 3, 1)}}
	gear := having([]int{3}, wheel)
	box := api.Thing{Classes: []int{2}, Values: []api.Value{val(1, 1, 2), val(4, -1<<40, 1)}, Parts: []api.Thing{wheel, gear}}
	half := func(loOpen, hiOpen bool) []api.Interval {
		return []api.Interval{{Lo: ratio(-1, 1), Hi: ratio(1, 2), HiOpen: hiOpen}, {Lo: ratio(1, 1), HiInf: true, LoOpen: loOpen}}
	}
	for i, c := range []struct {
		f    api.Formula
		want bool
	}{
		{yes, true}, {no, false}, {and(), true}, {class(0), true}, {class(1), false}, {class(2), true}, {class(3), false}, {non(class(3)), true}, {non(class(0)), false}, {non(yes), false}, {non(no), true},
		{value(1, half(false, false)...), true}, {value(1, half(false, true)...), false}, {value(1, api.Interval{Lo: ratio(1, 2), HiInf: true, LoOpen: true}), false}, {value(1, api.Interval{Lo: ratio(1, 2), HiInf: true}), true}, {value(1, all), true}, {value(1), false}, {value(0, all), false}, {value(3, all), false},
		{non(value(0, all)), true}, {non(value(1, all)), false}, {value(4, all), true}, {value(4, api.Interval{Lo: ratio(-1<<30, 1), HiInf: true}), false}, {value(4, api.Interval{Hi: ratio(-1<<30, 1), LoInf: true}), true}, {value(31, all), false},
		{part(yes), true}, {part(no), false}, {part(class(0)), true}, {part(class(1)), true}, {part(class(3)), true}, {part(class(2)), true}, {part(and(class(1), class(2))), true}, {and(part(class(1)), part(class(3))), true}, {part(non(class(2))), true}, {part(non(class(0))), false},
		{part(and(class(3), value(0, all))), false}, {part(or(class(3), value(0, all))), true}, {part(value(0, closed(3, 3))), true}, {part(value(0, closed(4, 5))), false}, {part(part(class(1))), true}, {part(part(class(3))), false}, {part(part(part(yes))), false},
		{part(part(value(0, all))), true}, {non(part(non(class(0)))), true}, {non(part(part(yes))), false}, {part(non(part(yes))), true}, {part(and(class(3), part(class(1)))), true}, {part(and(class(3), non(part(yes)))), false},
		{and(class(0), class(2)), true}, {and(class(0), class(1)), false}, {and(class(1), class(0)), false}, {or(class(1), class(3)), false}, {or(class(1), class(0)), true}, {or(class(0), class(1)), true}, {or(no, no, no, yes), true}, {and(yes, yes, yes, no), false},
	} {
		is, e := Holds(x, c.f, box)
		if e != api.OK || is != c.want {
			t.Errorf("case %d: %v, %d", i, is, e)
		}
		// The same within a thing that has no other part, and negated.
		if is, e := Holds(x, part(c.f), having(nil, box)); e != api.OK || is != c.want {
			t.Errorf("case %d as a part: %v, %d", i, is, e)
		}
		if is, e := Holds(x, non(c.f), box); e != api.OK || is == c.want {
			t.Errorf("case %d negated: %v, %d", i, is, e)
		}
		inScenes(t, c.f, []scene{sceneOf(t, diamond, box)})
	}
}

// P7.2: the errors, in their order.
func TestHoldsErrors(t *testing.T) {
	x, _ := taxon.New(diamond)
	empty, _ := taxon.New(nil)
	whole, _ := taxon.New(make([][]int, 64))
	badThing := having([]int{2, 1})
	large := having(nil, make([]api.Thing, 96)...)
	for i, c := range []struct {
		x *taxon.Taxon
		f api.Formula
		t api.Thing
		e api.Errno
	}{
		{nil, yes, api.Thing{}, api.ErrArg}, {nil, star(97), large, api.ErrArg}, {nil, class(63), having([]int{63}), api.ErrArg},
		{x, class(64), api.Thing{}, api.ErrArg}, {x, star(97), api.Thing{}, api.ErrLimit}, {x, and(star(95), class(64)), badThing, api.ErrLimit}, {x, class(64), large, api.ErrArg}, {x, star(97), badThing, api.ErrLimit}, {x, value(0, closed(2, 1)), having([]int{9}), api.ErrArg},
		{x, yes, badThing, api.ErrArg}, {x, yes, large, api.ErrLimit}, {x, class(4), badThing, api.ErrArg}, {x, class(4), large, api.ErrLimit}, {x, yes, having([]int{9}, badThing), api.ErrArg}, {x, no, api.Thing{Values: []api.Value{val(0, 1, 0)}}, api.ErrArg}, {x, no, api.Thing{Values: []api.Value{val(0, 1, 65537)}}, api.ErrArg},
		{x, class(4), api.Thing{}, api.ErrNone}, {x, class(63), api.Thing{}, api.ErrNone}, {x, yes, having([]int{4}), api.ErrNone}, {x, yes, having([]int{0, 63}), api.ErrNone}, {x, part(class(4)), api.Thing{}, api.ErrNone}, {x, and(no, non(class(4))), api.Thing{}, api.ErrNone}, {x, or(yes, around(6, api.OpPart, class(9))), api.Thing{}, api.ErrNone},
		{x, yes, having(nil, having([]int{1}), having(nil, having([]int{4}))), api.ErrNone}, {x, class(3), having([]int{3}), api.OK}, {empty, class(0), api.Thing{}, api.ErrNone}, {empty, yes, having([]int{0}), api.ErrNone}, {empty, and(), api.Thing{}, api.OK}, {empty, value(3, all), api.Thing{Values: []api.Value{val(3, 5, 7)}}, api.OK},
		{whole, class(63), having([]int{63}), api.OK}, {whole, class(64), having([]int{63}), api.ErrArg}, {whole, class(63), having([]int{64}), api.ErrArg},
	} {
		if is, e := Holds(c.x, c.f, c.t); is != (c.e == api.OK) || e != c.e {
			t.Errorf("case %d: %v, %d", i, is, e)
		}
	}
}

// P7.3: cases that were worked out by hand.
func TestPush(t *testing.T) {
	a, b, v := class(1), class(2), value(0, closed(1, 2))
	for i, c := range []struct{ f, want api.Formula }{
		{yes, yes}, {no, no}, {and(), and()}, {a, a}, {v, v}, {part(a), part(a)}, {and(a, yes, a), and(a, yes, a)}, {or(b, a, no), or(b, a, no)}, {and(and(a)), and(and(a))}, {value(0), value(0)},
		{non(yes), no}, {non(no), yes}, {non(and()), no}, {non(a), non(a)}, {non(v), non(v)}, {non(value(0)), non(value(0))}, {non(part(a)), non(part(a))}, {non(part(no)), non(part(no))},
		{non(non(a)), a}, {non(non(non(a))), non(a)}, {non(non(yes)), yes}, {non(non(non(yes))), no}, {non(non(part(non(non(a))))), part(a)}, {non(non(and())), and()}, {non(non(or())), or()},
		{non(and(a, b)), or(non(a), non(b))}, {non(or(a, b)), and(non(a), non(b))}, {non(and(a)), or(non(a))}, {non(or(a)), and(non(a))}, {non(and(yes, no)), or(no, yes)}, {non(or(and(), no)), and(no, yes)}, {non(or(non(a), b, non(non(v)))), and(a, non(b), non(v))},
		{non(or(and(a, non(b)), or(non(v), a))), and(or(non(a), b), and(v, non(a)))}, {and(non(or(a, b)), non(and(a, b))), and(and(non(a), non(b)), or(non(a), non(b)))}, {part(non(and(a, b))), part(or(non(a), non(b)))}, {part(non(yes)), part(no)},
		{non(part(non(a))), non(part(non(a)))}, {non(part(non(non(a)))), non(part(a))}, {non(part(non(or(a, b)))), non(part(and(non(a), non(b))))}, {non(part(or(a, b))), non(part(or(a, b)))}, {non(part(part(non(and())))), non(part(part(no)))}, {non(and(part(non(yes)), a)), or(non(part(no)), non(a))},
		{around(6, api.OpNot, v), v}, {around(7, api.OpNot, v), non(v)}, {around(6, api.OpAnd, non(a)), around(6, api.OpAnd, non(a))}, {non(around(6, api.OpAnd, a)), around(6, api.OpOr, non(a))},
	} {
		p, e := Push(c.f)
		if e != api.OK || !same(p, c.want) {
			t.Errorf("case %d: Push(%v): %v, %d", i, c.f, p, e)
		}
		everyCall(t, c.f)
	}
}

// P7.3: a result can have too many nodes.
func TestPushLimit(t *testing.T) {
	for i, c := range []struct {
		f    api.Formula
		want api.Errno
	}{
		{non(and(slices.Repeat([]api.Formula{class(1)}, 47)...)), api.OK}, {non(and(slices.Repeat([]api.Formula{class(1)}, 48)...)), api.ErrLimit}, {non(or(slices.Repeat([]api.Formula{value(1, all)}, 47)...)), api.OK}, {non(or(slices.Repeat([]api.Formula{value(1)}, 48)...)), api.ErrLimit},
		{non(and(slices.Repeat([]api.Formula{yes}, 94)...)), api.OK}, {non(and(slices.Repeat([]api.Formula{yes}, 95)...)), api.ErrLimit}, {non(or(slices.Repeat([]api.Formula{no}, 94)...)), api.OK}, {non(or(slices.Repeat([]api.Formula{part(class(1))}, 31)...)), api.OK}, {non(or(slices.Repeat([]api.Formula{part(class(1))}, 32)...)), api.ErrLimit},
		{and(slices.Repeat([]api.Formula{non(non(class(1)))}, 31)...), api.OK}, {non(non(and(slices.Repeat([]api.Formula{class(1)}, 93)...))), api.OK}, {non(and(slices.Repeat([]api.Formula{non(class(1))}, 47)...)), api.OK},
		{part(non(or(append(slices.Repeat([]api.Formula{class(1)}, 46), yes, yes)...))), api.OK}, {part(non(or(append(slices.Repeat([]api.Formula{class(1)}, 46), yes, yes, yes)...))), api.ErrLimit},
		{class(64), api.ErrArg}, {star(97), api.ErrLimit}, {non(and(append(slices.Repeat([]api.Formula{class(1)}, 60), class(64))...)), api.ErrArg}, {of(api.OpNot), api.ErrArg}, {non(of(api.OpPart)), api.ErrArg}, {of(9), api.ErrArg},
	} {
		p, e := Push(c.f)
		if e != c.want || e != api.OK && !nothing(p) {
			t.Errorf("case %d: %v, %d", i, p, e)
		}
		everyCall(t, c.f)
	}
}

// increasingFormulas returns formulas in increasing order, also ones that are not valid.
func increasingFormulas() []api.Formula {
	with := func(x api.Interval) api.Formula { return value(0, x) }
	lo := func(inf, open bool, num, den int) api.Interval {
		return api.Interval{LoInf: inf, LoOpen: open, Lo: ratio(num, den)}
	}
	hi := func(inf, open bool, num, den int) api.Interval {
		x := lo(true, true, 9, 9)
		x.HiInf, x.HiOpen, x.Hi = inf, open, ratio(num, den)
		return x
	}
	return []api.Formula{
		{Op: math.MinInt, N: math.MaxInt}, of(-1), yes, of(api.OpTrue, class(0)), api.Formula{N: 1}, class(-1), class(0), of(api.OpClass, yes), class(1), class(2), class(64),
		api.Formula{Op: api.OpValue, N: -1, In: apart(9)}, value(0), of(api.OpValue, no),
		with(lo(false, false, -1, 3)), with(lo(false, false, -1, 4)), with(lo(false, false, 1, 1)), with(lo(false, false, 1, 2)), with(lo(false, false, 2, 1)), with(lo(false, true, -5, 1)), with(lo(true, false, -9, 0)), with(lo(true, false, -8, -1)),
		with(lo(true, true, 9, 9)), with(hi(false, false, 0, 1)), with(hi(false, false, 3, 1)), with(hi(false, false, 3, 2)), with(hi(false, false, 4, 1)), with(hi(false, true, -7, 1)), with(hi(true, false, -9, 1)), with(hi(true, true, -10, 1)),
		value(0, lo(false, false, -9, 1), lo(false, false, -9, 1)), value(0, lo(false, false, -9, 1), lo(false, false, -8, 1)), value(0, lo(false, false, -8, 1), lo(false, false, -9, 1)), value(0, apart(3)...), value(1), value(1, all), value(2),
		of(api.OpPart), part(yes), part(class(1)), part(class(2)), part(and()), of(api.OpPart, yes, yes), and(), and(yes), and(class(1)), and(no), and(non(yes)), and(yes, yes), and(yes, class(1)), and(class(0), no), and(class(1), class(0)), and(class(1), class(1)), and(no, class(0)), and(yes, yes, yes),
		or(), or(non(no)), or(yes, yes), non(yes), non(class(1)), non(and(class(0))), non(and(class(1))), non(non(yes)), api.Formula{Op: api.OpNot, N: 1}, of(7), of(math.MaxInt),
	}
}

// P7.4: cases that were worked out by hand.
func TestCompare(t *testing.T) {
	l := increasingFormulas()
	for i, a := range l {
		for j, b := range l {
			want := 0
			if i < j {
				want = -1
			}
			if i > j {
				want = 1
			}
			if c := Compare(a, copied(b)); c != want || c != slices.Compare(key(a), key(b)) {
				t.Errorf("Compare(%v, %v): %d", a, b, c)
			}
			if c := Compare(and(yes, a), and(yes, b)); c != want {
				t.Errorf("Compare with %v and %v within: %d", a, b, c)
			}
		}
	}
}

// P7.5: cases that were worked out by hand.
func TestSimple(t *testing.T) {
	a, b, v := class(1), class(2), value(0, closed(1, 2))
	for i, c := range []struct{ f, want api.Formula }{
		{yes, yes}, {no, no}, {a, a}, {v, v}, {value(3), no}, {value(3, all), value(3, all)}, {part(a), part(a)}, {part(yes), part(yes)}, {part(no), no}, {part(value(1)), no}, {part(part(no)), no}, {part(or(no, value(0))), no},
		{non(a), non(a)}, {non(v), non(v)}, {non(yes), no}, {non(no), yes}, {non(non(a)), a}, {non(non(non(a))), non(a)}, {non(non(yes)), yes}, {non(value(0)), yes}, {non(part(no)), yes}, {non(part(a)), non(part(a))}, {non(and(a, b)), non(and(a, b))}, {non(non(and(b, a))), and(a, b)}, {non(and()), no}, {non(and(non(a))), a}, {non(or(non(a), non(a))), a},
		{and(), yes}, {and(yes), yes}, {and(yes, yes), yes}, {and(a), a}, {and(no), no}, {and(a, no, b), no}, {and(no, yes), no}, {and(yes, a), a}, {and(a, yes, b), and(a, b)}, {and(a, a), a}, {and(b, a), and(a, b)}, {and(b, a, b, a), and(a, b)}, {and(v, non(a), part(a), or(a, b), b, a), and(a, b, v, part(a), or(a, b), non(a))},
		{and(and(b, a), a), and(a, b)}, {and(and(v), and(b, and(a))), and(a, b, v)}, {and(and(), and(yes)), yes}, {and(a, and(b, no)), no}, {and(a, value(1)), no}, {and(a, non(yes)), no}, {and(a, non(non(and(v, b)))), and(a, b, v)}, {and(or(a), or(b)), and(a, b)}, {and(or(and(b, a)), v), and(a, b, v)}, {and(or(), a), no}, {and(or(a, b), or(b, a)), or(a, b)}, {and(or(a, yes), b), b},
		{or(no), no}, {or(no, no), no}, {or(yes), yes}, {or(a), a}, {or(a, yes, b), yes}, {or(yes, no), yes}, {or(a, no), a}, {or(no, b, a), or(a, b)}, {or(a, a), a}, {or(b, a, b, a), or(a, b)}, {or(non(a), v, b, part(no), a), or(a, b, v, non(a))},
		{or(or(b, a), a), or(a, b)}, {or(or(v), or(b, or(a))), or(a, b, v)}, {or(or(), or(no)), no}, {or(a, or(b, yes)), yes}, {or(a, and()), yes}, {or(a, value(1)), a}, {or(a, non(no)), yes}, {or(a, non(non(or(v, b)))), or(a, b, v)}, {or(and(a), and(b)), or(a, b)}, {or(and(or(b, a)), v), or(a, b, v)}, {or(and(a, b), and(b, a)), and(a, b)}, {or(and(no, a), b), b},
		// Not all that means the same becomes the same.
		{and(a, non(a)), and(a, non(a))}, {or(a, non(a)), or(a, non(a))}, {value(0, closed(1, 2), closed(3, 4)), value(0, closed(1, 2), closed(3, 4))}, {or(a, and(a, b)), or(a, and(a, b))}, {non(or(a, non(b))), non(or(a, non(b)))}, {part(or(a, b)), part(or(a, b))}, {and(v, value(0, closed(3, 4))), and(v, value(0, closed(3, 4)))},
		{part(and(yes, b, and(a))), part(and(a, b))}, {and(b, part(b), part(a), part(and(a, yes))), and(b, part(a), part(b))}, {around(7, api.OpAnd, no), no}, {around(6, api.OpNot, value(0)), no}, {around(7, api.OpOr, a), a}, {around(7, api.OpPart, yes), around(7, api.OpPart, yes)}, {around(7, api.OpPart, no), no},
	} {
		s, e := Simple(c.f)
		if e != api.OK || !same(s, c.want) {
			t.Errorf("case %d: Simple(%v): %v, %d", i, c.f, s, e)
		}
		everyCall(t, c.f)
	}
	for i, c := range []struct {
		f    api.Formula
		want api.Errno
	}{{class(64), api.ErrArg}, {star(97), api.ErrLimit}, {or(yes, class(64)), api.ErrArg}, {and(no, class(-1)), api.ErrArg}, {of(api.OpNot), api.ErrArg}, {of(api.OpPart), api.ErrArg}, {of(7), api.ErrArg}, {around(8, api.OpNot, yes), api.ErrLimit}, {value(0, apart(33)...), api.ErrArg}} {
		if s, e := Simple(c.f); e != c.want || !nothing(s) {
			t.Errorf("case %d: %v, %d", i, s, e)
		}
	}
}

// P7.6: encodings that were worked out by hand.
func TestEncode(t *testing.T) {
	between := api.Interval{Lo: ratio(-1, 3), Hi: ratio(64, 1), LoOpen: true}
	from := api.Interval{Lo: ratio(1, 2), HiInf: true}
	for i, c := range []struct {
		f    api.Formula
		want []byte
	}{
		{yes, []byte{0, 0, 0, 0}}, {class(0), []byte{2, 0, 0, 0}}, {class(5), []byte{2, 10, 0, 0}}, {class(63), []byte{2, 126, 0, 0}}, {value(0), []byte{4, 0, 0, 0}}, {value(31), []byte{4, 62, 0, 0}},
		{and(), []byte{8, 0, 0, 0}}, {no, []byte{10, 0, 0, 0}}, {part(yes), []byte{6, 0, 0, 2, 0, 0, 0, 0}}, {non(class(1)), []byte{12, 0, 0, 2, 2, 2, 0, 0}}, {and(class(2), class(1)), []byte{8, 0, 0, 4, 2, 4, 0, 0, 2, 2, 0, 0}}, {or(non(yes), no), []byte{10, 0, 0, 4, 12, 0, 0, 2, 0, 0, 0, 0, 10, 0, 0, 0}},
		{value(1, all), []byte{4, 2, 2, 8, 0, 0, 0, 0, 0, 0, 2, 2, 0}}, {value(0, between), []byte{4, 0, 2, 8, 1, 6, 128, 1, 2, 2, 0, 0, 0, 0}}, {value(0, from), []byte{4, 0, 2, 8, 2, 4, 0, 0, 0, 0, 0, 2, 0}},
		{value(0, api.Interval{LoInf: true, Hi: ratio(-2, 1), HiOpen: true}, closed(0, 0)), []byte{4, 0, 4, 8, 0, 0, 3, 2, 0, 2, 2, 0, 8, 0, 2, 0, 2, 0, 0, 0, 0, 0}}, {part(value(2, from)), []byte{6, 0, 0, 2, 4, 4, 2, 8, 2, 4, 0, 0, 0, 0, 0, 2, 0}},
		{star(65), append([]byte{8, 0, 0, 128, 1}, make([]byte, 4*64)...)}, {star(96), append([]byte{8, 0, 0, 190, 1}, make([]byte, 4*95)...)}, {around(7, api.OpNot, yes), append(bytes.Repeat([]byte{12, 0, 0, 2}, 7), 0, 0, 0, 0)},
	} {
		if b, e := Encode(c.f); e != api.OK || !bytes.Equal(b, c.want) {
			t.Errorf("case %d: %v, %d", i, b, e)
		}
		if f, e := Decode(c.want); e != api.OK || !same(f, c.f) {
			t.Errorf("case %d: %v, %d", i, f, e)
		}
	}
	for i, c := range []struct {
		f    api.Formula
		want api.Errno
	}{{class(64), api.ErrArg}, {star(97), api.ErrLimit}, {around(8, api.OpAnd, yes), api.ErrLimit}, {or(yes, of(api.OpNot)), api.ErrArg}, {value(0, closed(2, 1)), api.ErrArg}, {value(0, apart(33)...), api.ErrArg}, {of(-1), api.ErrArg}} {
		if b, e := Encode(c.f); e != c.want || len(b) > 0 {
			t.Errorf("case %d: %v, %d", i, b, e)
		}
	}
}

// P7.6: what is not the encoding of a valid formula is malformed, also where the wire would want more bytes.
func TestDecode(t *testing.T) {
	far := binary.AppendVarint(nil, math.MaxInt)
	low := binary.AppendVarint(nil, math.MinInt)
	join := func(l ...[]byte) []byte { return bytes.Join(l, nil) }
	for i, b := range [][]byte{
		nil, {}, {0}, {0, 0}, {0, 0, 0}, {0, 0, 0, 0, 0}, {0, 0, 0, 0, 0, 0, 0, 0}, {1, 0, 0, 0}, {14, 0, 0, 0}, {14, 0, 0, 2, 0, 0, 0, 0}, {0, 2, 0, 0}, {0, 1, 0, 0}, {2, 1, 0, 0}, {2, 128, 1, 0, 0}, {4, 64, 0, 0}, {4, 1, 0, 0},
		{0, 0, 1, 0}, {0, 0, 0, 1}, {8, 0, 0, 1}, {8, 0, 0, 2}, {8, 0, 0, 2, 0, 0, 0}, {8, 0, 0, 4, 0, 0, 0, 0}, {4, 0, 1, 0}, {0, 0, 0, 2, 0, 0, 0, 0}, {2, 0, 0, 2, 0, 0, 0, 0}, {4, 0, 0, 2, 0, 0, 0, 0}, {6, 0, 0, 0}, {12, 0, 0, 0}, {6, 0, 0, 4, 0, 0, 0, 0, 0, 0, 0, 0}, {12, 0, 0, 4, 0, 0, 0, 0, 0, 0, 0, 0},
		{6, 2, 0, 2, 0, 0, 0, 0}, {12, 2, 0, 2, 0, 0, 0, 0}, {8, 2, 0, 0}, {10, 1, 0, 0}, {128, 0, 0, 0, 0}, {0, 128, 0, 0, 0}, {0, 0, 128, 0, 0}, {0, 0, 0, 128, 0}, {128}, {8, 0, 0, 130, 0, 0, 0, 0, 0},
		// Intervals that are cut off, or are not written in 8 numbers of the right kind.
		{4, 0, 2}, {4, 0, 2, 0}, {4, 0, 2, 0, 0}, {4, 0, 2, 8}, {4, 0, 2, 8, 0, 0, 0, 0, 0, 0, 2, 2}, {4, 0, 2, 7, 0, 0, 0, 0, 0, 0, 2, 0}, {4, 0, 2, 9, 0, 0, 0, 0, 0, 0, 2, 2, 0, 0}, {4, 0, 2, 4, 2, 2, 2, 2, 0}, {4, 0, 2, 2, 2, 2, 2, 0, 0, 0, 0, 0},
		{4, 0, 2, 8, 0, 0, 0, 0, 0, 0, 1, 2, 0}, {4, 0, 2, 8, 0, 0, 0, 0, 0, 0, 2, 1, 0}, {4, 0, 2, 8, 0, 0, 0, 0, 0, 0, 4, 2, 0}, {4, 0, 2, 8, 0, 2, 2, 2, 4, 0, 0, 0, 0}, {4, 0, 2, 8, 0, 2, 2, 2, 0, 1, 0, 0, 0}, {4, 0, 2, 8, 0, 0, 0, 0, 2, 0, 2, 2, 0}, {4, 0, 2, 8, 0, 0, 0, 0, 0, 2, 2, 2, 0}, {4, 0, 2, 8, 2, 2, 0, 0, 0, 0, 2, 2, 0},
		{4, 0, 4, 8, 0, 0, 0, 0, 0, 0, 2, 2, 0}, {4, 0, 4, 8, 0, 0, 0, 0, 0, 0, 2, 2, 8, 0, 0, 0, 0, 0, 0, 2, 2, 0}, {0, 0, 2, 8, 0, 0, 0, 0, 0, 0, 2, 2, 0}, {2, 0, 2, 8, 0, 0, 0, 0, 0, 0, 2, 2, 0}, {8, 0, 2, 8, 0, 0, 0, 0, 0, 0, 2, 2, 0}, {4, 0, 2, 8, 4, 2, 2, 2, 0, 0, 0, 0, 0}, {4, 0, 2, 8, 4, 4, 4, 2, 0, 0, 0, 0, 0},
		join(far, []byte{0, 0, 0}), join([]byte{2}, far, []byte{0, 0}), join([]byte{0, 0}, far, []byte{0}), join([]byte{8, 0, 0}, far), join(low, []byte{0, 0, 0}), join([]byte{2}, low, []byte{0, 0}), join([]byte{0, 0}, low, []byte{0}), join([]byte{8, 0, 0}, low),
		join([]byte{4, 0, 2}, binary.AppendUvarint(nil, math.MaxUint64)), join([]byte{4, 0, 2}, far, make([]byte, 9)), join([]byte{4, 0, 2, 8}, far, []byte{2, 2, 2, 0, 0, 0, 0, 0}), join([]byte{4, 0, 2, 8, 2, 2, 4, 2, 0, 0}, low, []byte{0, 0}),
		refEncode(around(8, api.OpNot, yes)), refEncode(around(100, api.OpAnd, yes)), refEncode(star(97)), refEncode(doubled(7)), refEncode(doubled(12)), refEncode(value(0, apart(33)...)), refEncode(class(64)), refEncode(around(7, api.OpNot, of(7))), append(refEncode(star(96)), 0), refEncode(star(96))[:384],
	} {
		if f, e := Decode(b); e != api.ErrForm || !nothing(f) {
			t.Errorf("case %d: Decode(%v): %v, %d", i, b, f, e)
		}
	}
	for i, f := range []api.Formula{value(0, apart(32)...), and(slices.Repeat([]api.Formula{value(31, apart(32)...)}, 95)...)} {
		if g, e := Decode(refEncode(f)); e != api.OK || !same(f, g) {
			t.Errorf("case %d: %v, %d", i, g, e)
		}
	}
}

// letters are the bytes of which all short byte slices are examined.
var letters = []byte{0, 1, 2, 4, 8, 12, 128}

// shortFormulas returns all valid formulas whose encodings have at most 8 letters. They have at most one kid, as an
// encoding has 4 bytes for each node, and no intervals, which have 9 bytes.
func shortFormulas() map[string]api.Formula {
	single := []api.Formula{yes, no, and()}
	for n := range 64 {
		single = append(single, class(n), value(n))
	}
	known := map[string]api.Formula{}
	for _, f := range single {
		for _, g := range []api.Formula{f, non(f), part(f), and(f), or(f)} {
			known[string(refEncode(g))] = g
		}
	}
	maps.DeleteFunc(known, func(b string, f api.Formula) bool {
		strange := slices.ContainsFunc([]byte(b), func(c byte) bool { return !slices.Contains(letters, c) })
		return len(b) > 8 || strange || refValid(f) != api.OK
	})
	return known
}

// P7.6: of all short byte slices with some letters, those are decoded that are encodings of valid formulas.
func TestDecodeEvery(t *testing.T) {
	known := shortFormulas()
	found := 0
	var extend func(b []byte, left int)
	extend = func(b []byte, left int) {
		f, e := Decode(b)
		want, ok := known[string(b)]
		if ok && (e != api.OK || !same(f, want)) || !ok && (e != api.ErrForm || !nothing(f)) {
			t.Fatalf("Decode(%v): %v, %d", b, f, e)
		}
		if ok {
			found++
		}
		if left == 0 {
			return
		}
		for _, c := range letters {
			extend(append(b, c), left-1)
		}
	}
	extend(nil, 8)
	if found != len(known) || found < 30 {
		t.Errorf("%d of %d formulas", found, len(known))
	}
}

// P7.6: of all intervals with some small numbers, written with a length of 8 or another one, those are decoded that are
// valid.
func TestDecodeIntervals(t *testing.T) {
	found := 0
	var extend func(b []byte, n []int)
	extend = func(b []byte, n []int) {
		if len(n) < 8 {
			for _, c := range []byte{0, 1, 2, 4} {
				extend(append(b, c), append(n, []int{0, -1, 1, 0, 2}[c]))
			}
			return
		}
		x := api.Interval{Lo: ratio(n[0], n[1]), Hi: ratio(n[2], n[3]), LoOpen: n[4] == 1, HiOpen: n[5] == 1, LoInf: n[6] == 1, HiInf: n[7] == 1}
		bits := !slices.ContainsFunc(n[4:], func(n int) bool { return n != 0 && n != 1 })
		valid := bits && refSet([]api.Interval{x})
		f, e := Decode(append(append([]byte{4, 6, 2, 8}, b...), 0))
		if valid && (e != api.OK || !same(f, value(3, x))) || !valid && (e != api.ErrForm || !nothing(f)) {
			t.Fatalf("interval %v: %v, %d", n, f, e)
		}
		if valid {
			found++
		}
		for _, length := range []byte{0, 4, 7, 9, 16} {
			if f, e := Decode(append(append([]byte{4, 6, 2, length}, b...), 0)); e != api.ErrForm || !nothing(f) {
				t.Fatalf("interval %v with the length %d: %v, %d", n, length, f, e)
			}
		}
	}
	extend(nil, nil)
	if found < 50 {
		t.Errorf("%d intervals", found)
	}
}

// P7.6: an encoding that is cut off, made longer or changed is another one or none.
func TestDecodeSpoiled(t *testing.T) {
	rnd := rand.New(rand.NewSource(71))
	for range 150 {
		b := refEncode(someFormula(rnd, 1+rnd.Intn(12), 5, false))
		l := [][]byte{append(slices.Clone(b), 0), append(slices.Clone(b), b...)}
		for i := range b {
			if f, e := Decode(b[:i]); e != api.ErrForm || !nothing(f) {
				t.Fatalf("Decode(%v): %v, %d", b[:i], f, e)
			}
			for range 10 {
				c := slices.Clone(b)
				c[i] = byte(rnd.Intn(256) >> rnd.Intn(8))
				l = append(l, c)
			}
		}
		for _, c := range l {
			f, e := Decode(c)
			if e != api.OK && (e != api.ErrForm || !nothing(f)) || e == api.OK && (refValid(f) != api.OK || !bytes.Equal(refEncode(f), c)) {
				t.Fatalf("Decode(%v): %v, %d", c, f, e)
			}
		}
	}
}

// P7.1 to P7.7 and P7.9: formulas of up to three levels, as the reference has them.
func TestEvery(t *testing.T) {
	l := scenes(t)
	for _, f := range middle() {
		everyCall(t, f)
		inScenes(t, f, l)
		forms(t, f, l)
	}
}

// P7.1 to P7.7 and P7.9: random formulas, and ones that were changed so that most are no longer valid.
func TestRandom(t *testing.T) {
	rnd := rand.New(rand.NewSource(72))
	count := map[api.Errno]int{}
	held, pushed := 0, 0
	for i := range 2000 {
		f := someFormula(rnd, 1+rnd.Intn(1+i%96), 1+rnd.Intn(8), false)
		if Valid(f) != api.OK {
			t.Fatalf("%v is not valid", f)
		}
		g := spoiled(rnd, f)
		l := someScenes(t, rnd, 6)
		for _, x := range []api.Formula{f, g} {
			everyCall(t, x)
			inScenes(t, x, l)
		}
		forms(t, f, l)
		for _, is := range meansIn(t, f, l) {
			held += number(is)
		}
		if p, e := Push(f); e == api.OK && !same(p, f) {
			pushed++
		}
		for _, p := range [][2]api.Formula{{f, f}, {f, g}, {g, f}, {g, copied(g)}} {
			if c := Compare(p[0], p[1]); c != slices.Compare(key(p[0]), key(p[1])) {
				t.Fatalf("Compare(%v, %v): %d", p[0], p[1], c)
			}
		}
		_, e := Push(f)
		count[e]++
		count[Valid(g)]++
	}
	for _, e := range []api.Errno{api.OK, api.ErrArg, api.ErrLimit} {
		if count[e] < 20 {
			t.Errorf("%d formulas with the error %d", count[e], e)
		}
	}
	if held < 2000 || held > 10000 || pushed < 500 {
		t.Errorf("%d held, %d were changed by Push", held, pushed)
	}
}

// P7.8: the operations are those of truth values.
func TestBoolean(t *testing.T) {
	rnd := rand.New(rand.NewSource(73))
	for range 1500 {
		l := someScenes(t, rnd, 4)
		var kids, parts []api.Formula
		for range rnd.Intn(5) {
			f := someFormula(rnd, 1+rnd.Intn(15), 6, false)
			kids, parts = append(kids, f), append(parts, part(f))
		}
		every, some, within := make([]bool, len(l)), make([]bool, len(l)), make([]bool, len(l))
		for i := range l {
			every[i] = true
		}
		for k, f := range kids {
			is, inPart, isNot := meansIn(t, f, l), meansIn(t, parts[k], l), meansIn(t, non(f), l)
			for i := range l {
				every[i], some[i], within[i] = every[i] && is[i], some[i] || is[i], within[i] || inPart[i]
				if is[i] == isNot[i] {
					t.Fatalf("%v and its negation in %v", f, l[i].things[0])
				}
			}
		}
		for i, is := range [][]bool{meansIn(t, and(kids...), l), meansIn(t, or(kids...), l), meansIn(t, part(or(kids...)), l), meansIn(t, or(parts...), l)} {
			if want := [][]bool{every, some, within, within}[i]; !slices.Equal(is, want) {
				t.Fatalf("operation %d of %v: %v instead of %v", i, kids, is, want)
			}
		}
	}
}

// P7.9: a total order, also of formulas that are not valid.
func TestOrder(t *testing.T) {
	l := append(increasingFormulas(), leaves()...)
	rnd := rand.New(rand.NewSource(74))
	for range 30 {
		f := someFormula(rnd, 1+rnd.Intn(6), 4, false)
		l = append(l, f, copied(f), spoiled(rnd, f), non(f))
	}
	for _, a := range l {
		for _, b := range l {
			c := Compare(a, b)
			if c != -Compare(b, a) || c*c > 1 || (c == 0) != bytes.Equal(refEncode(a), refEncode(b)) {
				t.Fatalf("Compare(%v, %v): %d", a, b, c)
			}
			for _, d := range l {
				if c <= 0 && Compare(b, d) <= 0 && Compare(a, d) > 0 {
					t.Fatalf("%v, %v and %v", a, b, d)
				}
			}
		}
	}
}

// richer returns a thing to which a class or a part was added, or in which a class was replaced by one that inherits
// from it, in one of its nodes.
func (s scene) richer(rnd *rand.Rand) api.Thing {
	var grow func(x api.Thing) api.Thing
	grow = func(x api.Thing) api.Thing {
		y := api.Thing{Classes: slices.Clone(x.Classes), Values: x.Values, Parts: slices.Clone(x.Parts)}
		switch c := rnd.Intn(4); {
		case len(y.Parts) > 0 && rnd.Intn(2) == 0:
			i := rnd.Intn(len(y.Parts))
			y.Parts[i] = grow(y.Parts[i])
		case rnd.Intn(3) == 0:
			y.Parts = slices.Insert(y.Parts, rnd.Intn(len(y.Parts)+1), someThing(rnd, 2))
		case len(y.Classes) > 0 && rnd.Intn(2) == 0:
			i := rnd.Intn(len(y.Classes))
			if s.isA(c, y.Classes[i]) {
				y.Classes[i] = c
			}
		default:
			y.Classes = append(y.Classes, c)
		}
		slices.Sort(y.Classes)
		y.Classes = slices.Compact(y.Classes)
		return y
	}
	return grow(s.things[0])
}

// P7.10: formulas without OpNot hold still for things that have more.
func TestInherits(t *testing.T) {
	rnd := rand.New(rand.NewSource(75))
	held, gained := 0, 0
	for range 1500 {
		f := someFormula(rnd, 1+rnd.Intn(20), 6, true)
		for _, s := range someScenes(t, rnd, 8) {
			more := s.richer(rnd)
			before, e := Holds(s.x, f, s.things[0])
			after, g := Holds(s.x, f, more)
			if e != api.OK || g != api.OK || before && !after {
				t.Fatalf("%v holds for %v: %v, %d; for %v: %v, %d", f, s.things[0], before, e, more, after, g)
			}
			held += number(before)
			gained += number(after && !before)
		}
	}
	if held < 1000 || gained < 50 {
		t.Errorf("%d held, %d came to hold", held, gained)
	}
	// With OpNot it is otherwise.
	x, _ := taxon.New(diamond)
	for _, more := range []api.Thing{having([]int{1, 2}), having([]int{2}, having([]int{0})), having([]int{3})} {
		f := and(non(class(1)), non(part(yes)))
		before, e := Holds(x, f, having([]int{2}))
		if after, g := Holds(x, f, more); e != api.OK || g != api.OK || !before || after {
			t.Errorf("%v: %v, %v", more, before, after)
		}
	}
}

// mark overwrites all memory of a formula, also behind its lists, with a number for each list, and adds for each of them
// a function that tells whether it has its number still.
func mark(f api.Formula, last *int, kept *[]func() bool) {
	for _, k := range f.Kids {
		mark(k, last, kept)
	}
	*last++
	n := *last
	in, kids := f.In[:cap(f.In)], f.Kids[:cap(f.Kids)]
	for i := range in {
		in[i] = closed(n, n)
	}
	for i := range kids {
		kids[i] = class(n)
	}
	*kept = append(*kept, func() bool {
		return !slices.ContainsFunc(in, func(x api.Interval) bool { return x != closed(n, n) }) &&
			!slices.ContainsFunc(kids, func(k api.Formula) bool { return !same(k, class(n)) })
	})
}

// shared returns a formula in which the kids and the sets of some nodes are the same memory.
func shared(rnd *rand.Rand) api.Formula {
	set := append(make([]api.Interval, 0, 9), closed(1, 2), closed(3, 4))
	f := or(value(0, set...), non(and(value(0, set...), part(value(1, set...)))), class(rnd.Intn(3)))
	g := someFormula(rnd, 1+rnd.Intn(8), 4, false)
	return and(f, non(f), or(g, non(g), non(non(g))), of(api.OpOr, append(make([]api.Formula, 0, 9), g)...), non(non(part(f))))
}

// R2 and R3: arguments stay what they were, results share no memory with them, nor do the lists of one result.
func TestMemory(t *testing.T) {
	rnd := rand.New(rand.NewSource(76))
	last := 0
	for i := range 400 {
		f := someFormula(rnd, 1+rnd.Intn(40), 8, false)
		if i%2 == 0 {
			f = shared(rnd)
		}
		x := someScenes(t, rnd, 1)[0]
		before := copied(f)
		b := refEncode(f)
		c := slices.Clone(b)
		var kept []func() bool
		for _, call := range []func() (api.Formula, api.Errno){
			func() (api.Formula, api.Errno) { return Push(f) },
			func() (api.Formula, api.Errno) { return Simple(f) },
			func() (api.Formula, api.Errno) { return Push(f) },
			func() (api.Formula, api.Errno) { return Simple(f) },
			func() (api.Formula, api.Errno) { return Decode(b) },
		} {
			if r, e := call(); e == api.OK {
				mark(r, &last, &kept)
			}
		}
		Valid(f)
		Compare(f, before)
		Holds(x.x, f, x.things[0])
		if code, e := Encode(f); e == api.OK {
			clear(code)
		}
		if !same(f, before) || !bytes.Equal(b, c) {
			t.Fatalf("%v changed", before)
		}
		for _, ok := range kept {
			if !ok() {
				t.Fatalf("results for %v share memory", before)
			}
		}
	}
}

// R1 and R3: nil and empty lists are the same, and memory behind a list does not count.
func TestEmpty(t *testing.T) {
	behind := func(op int) api.Formula {
		return api.Formula{Op: op, In: apart(3)[:0], Kids: []api.Formula{of(-1)}[:0]}
	}
	l := scenes(t)
	for range 2 {
		for _, op := range []int{api.OpTrue, api.OpClass, api.OpValue, api.OpPart, api.OpAnd, api.OpOr, api.OpNot} {
			for _, f := range []api.Formula{of(op), {Op: op, In: []api.Interval{}, Kids: []api.Formula{}}, behind(op)} {
				everyCall(t, f)
				inScenes(t, f, l)
				for _, up := range []api.Formula{non(f), part(f), and(f, f), or(f, yes), non(and(f, class(1)))} {
					everyCall(t, up)
					inScenes(t, up, l)
				}
				if Compare(f, of(op)) != 0 || Compare(behind(op), f) != 0 {
					t.Error("nil and empty lists differ")
				}
			}
		}
		if b, e := Encode(behind(api.OpOr)); e != api.OK || !bytes.Equal(b, []byte{10, 0, 0, 0}) {
			t.Errorf("Encode: %v, %d", b, e)
		}
		if s, e := Simple(and(behind(api.OpOr), yes)); e != api.OK || !same(s, no) {
			t.Errorf("Simple: %v, %d", s, e)
		}
	}
}

// P1: large formulas and long inputs, to an end and without a panic.
func TestExtremes(t *testing.T) {
	deep, wide, many := around(1<<16, api.OpNot, yes), star(1<<18), doubled(100)
	// A formula that is a kid of itself.
	loop := or(yes)
	loop.Kids[0] = loop
	x, _ := taxon.New(diamond)
	for i, f := range []api.Formula{deep, wide, many, loop, of(-1, many.Kids...), of(api.OpTrue, loop)} {
		if e := Valid(f); e != api.ErrLimit {
			t.Errorf("case %d: Valid: %d", i, e)
		}
		for _, call := range []func(api.Formula) (api.Formula, api.Errno){Push, Simple} {
			if r, e := call(f); e != api.ErrLimit || !nothing(r) {
				t.Errorf("case %d: %v, %d", i, r, e)
			}
		}
		if b, e := Encode(f); e != api.ErrLimit || len(b) > 0 {
			t.Errorf("case %d: Encode: %d", i, e)
		}
		if is, e := Holds(x, f, api.Thing{Classes: []int{-1}}); e != api.ErrLimit || is {
			t.Errorf("case %d: Holds: %d", i, e)
		}
	}
	for i, f := range []api.Formula{deep, wide} {
		if Compare(f, f) != 0 || Compare(f, yes) != 1 || Compare(yes, f) != -1 {
			t.Errorf("case %d: Compare", i)
		}
	}
	if Size(deep) != 1<<16+1 || Deep(deep) != 1<<16+1 || Size(wide) != 1<<18 || Deep(wide) != 2 {
		t.Error("sizes")
	}
	if long := value(0, apart(1<<16)...); Valid(long) != api.ErrArg || Compare(long, copied(long)) != 0 {
		t.Error("many intervals")
	}
	for i, b := range [][]byte{append(bytes.Repeat([]byte{12, 0, 0, 2}, 1<<16), 0, 0, 0, 0), refEncode(wide), append([]byte{8, 0, 0, 190, 1}, bytes.Repeat([]byte{8, 0, 0, 190, 1}, 1<<12)...), refEncode(value(0, apart(1<<14)...)), append([]byte{4, 0, 2, 128, 128, 1}, make([]byte, 1<<15)...)} {
		if f, e := Decode(b); e != api.ErrForm || !nothing(f) {
			t.Errorf("case %d: %d", i, e)
		}
	}
	for c := range 256 {
		for _, b := range [][]byte{bytes.Repeat([]byte{byte(c)}, 1<<12), bytes.Repeat([]byte{8, 0, 0, byte(c)}, 1<<12), bytes.Repeat([]byte{4, 0, byte(c), 0}, 1<<12), bytes.Repeat([]byte{0, 0, 0, byte(c)}, 1<<12)} {
			if f, e := Decode(b); e != api.ErrForm || !nothing(f) {
				t.Errorf("Decode of many bytes %d: %d", c, e)
			}
		}
	}
}

// P7.2: the largest formulas and things, with the deepest way through both.
func TestLargest(t *testing.T) {
	parents := make([][]int, 64)
	for c := 1; c < 64; c++ {
		parents[c] = []int{c - 1}
	}
	x := having([]int{63})
	for i := range 7 {
		x = having([]int{i}, append(slices.Repeat([]api.Thing{having([]int{62 - i})}, 11), x)...)
	}
	f := class(0)
	for i := range 7 {
		f = []api.Formula{part(f), and(append(slices.Repeat([]api.Formula{class(0)}, 12), f)...), non(f), or(append(slices.Repeat([]api.Formula{class(63)}, 12), f)...), part(f), and(f), part(f)}[i]
	}
	s := sceneOf(t, parents, x)
	inScenes(t, f, []scene{s})
	inScenes(t, non(class(63)), []scene{s})
	inScenes(t, around(7, api.OpPart, class(63)), []scene{s})
	if is, e := Holds(s.x, around(7, api.OpPart, class(63)), x); !is || e != api.OK {
		t.Errorf("%v, %d", is, e)
	}
}

// The examples of the chapter.
func TestChapterExamples(t *testing.T) {
	x, _ := taxon.New([][]int{nil, {0}})
	for i, c := range []struct {
		f    api.Formula
		want bool
	}{{class(0), true}, {non(class(0)), false}, {class(1), true}} {
		if is, e := Holds(x, c.f, having([]int{1})); e != api.OK || is != c.want {
			t.Errorf("case %d: %v, %d", i, is, e)
		}
	}
	if p, e := Push(non(and(class(0), non(class(1))))); e != api.OK || !same(p, or(non(class(0)), class(1))) {
		t.Errorf("Push: %v, %d", p, e)
	}
	if s, e := Simple(and(yes, class(1), class(1))); e != api.OK || !same(s, class(1)) {
		t.Errorf("Simple: %v, %d", s, e)
	}
}

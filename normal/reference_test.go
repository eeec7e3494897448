package normal

import (
	"fmt"
	"math/rand"
	"slices"
	"testing"

	"priorart/api"
	"priorart/span"
	"priorart/taxon"
)

// The reference follows the words of the chapter. It makes both lists of a formula by one function, with OpTrue as OpAnd
// without kids, and each product by counting through the choices of one alternative from each list; the lists of an
// alternative are maps until all is joined. What holds for a thing it finds by the definitions. Of the package it uses the
// types alone, and of span what the chapter names, Not and Meet.

// sketch is an alternative while it is made. Formulas are values of maps, by their keys as texts.
type sketch struct {
	yes, no   map[int]bool
	nums      map[int]Num
	has, none map[string]api.Formula
}

func blank() sketch {
	return sketch{map[int]bool{}, map[int]bool{}, map[int]Num{}, map[string]api.Formula{}, map[string]api.Formula{}}
}

// add joins another sketch to s, and reports whether the sets have few enough intervals.
func (s sketch) add(o sketch) bool {
	for c := range o.yes {
		s.yes[c] = true
	}
	for c := range o.no {
		s.no[c] = true
	}
	for k, f := range o.has {
		s.has[k] = f
	}
	for k, f := range o.none {
		s.none[k] = f
	}
	for attr, n := range o.nums {
		old, both := s.nums[attr]
		if both {
			in, e := span.Meet(old.In, n.In)
			if e != api.OK {
				return false
			}
			n.In = in
			n.Absent = n.Absent && old.Absent
		}
		s.nums[attr] = n
	}
	return true
}

func (s sketch) alt() Alt {
	var a Alt
	for c := range api.MaxClasses {
		if s.yes[c] {
			a.Yes = append(a.Yes, c)
		}
		if s.no[c] {
			a.No = append(a.No, c)
		}
		if n, ok := s.nums[c]; ok {
			a.Nums = append(a.Nums, n)
		}
	}
	a.Has, a.None = inOrder(s.has), inOrder(s.none)
	return a
}

// inOrder returns the formulas of a map in increasing order.
func inOrder(m map[string]api.Formula) []api.Formula {
	var l []api.Formula
	for _, f := range m {
		l = append(l, f)
	}
	slices.SortFunc(l, func(a, b api.Formula) int { return slices.Compare(key(a), key(b)) })
	return l
}

// text returns a key as a text.
func text(f api.Formula) string { return fmt.Sprint(key(f)) }

// single returns the sketch of a class, value or part, or of what is not one, and whether its set has few enough
// intervals.
func single(f api.Formula, turned bool) (sketch, bool) {
	s, ok := blank(), true
	switch f.Op {
	case api.OpClass:
		map[bool]map[int]bool{false: s.yes, true: s.no}[turned][f.N] = true
	case api.OpPart:
		map[bool]map[string]api.Formula{false: s.has, true: s.none}[turned][text(f.Kids[0])] = f.Kids[0]
	case api.OpValue:
		n := Num{Attr: f.N, In: f.In, Absent: turned}
		if turned {
			in, e := span.Not(f.In)
			n.In, ok = in, e == api.OK
		}
		s.nums[f.N] = n
	}
	return s, ok
}

// sketches returns D of a valid formula, or N if turned is true, and the least limit that all lists keep to that are
// needed; tooMany, if there is none.
func sketches(f api.Formula, turned bool) ([]sketch, int) {
	switch f.Op {
	case api.OpNot:
		return sketches(f.Kids[0], !turned)
	case api.OpClass, api.OpValue, api.OpPart:
		s, ok := single(f, turned)
		if !ok {
			return nil, tooMany
		}
		return []sketch{s}, 1
	}
	var lists [][]sketch
	least := 1
	for _, k := range f.Kids {
		l, n := sketches(k, turned)
		lists, least = append(lists, l), max(least, n)
	}
	if (f.Op == api.OpOr) != turned {
		all := slices.Concat(lists...)
		return all, max(least, len(all))
	}
	l := []sketch{blank()}
	for i := range lists {
		if least >= tooMany {
			return nil, tooMany
		}
		var n int
		l, n = choices(lists[:i+1])
		least = max(least, n)
	}
	return l, least
}

// tooMany is more than the greatest limit.
const tooMany = 65

// choices returns the sketches of all choices of one from each list, the choice from the last list changing first, and
// their number or tooMany.
func choices(lists [][]sketch) ([]sketch, int) {
	count := 1
	for _, l := range lists {
		count *= len(l)
	}
	if count >= tooMany {
		return nil, tooMany
	}
	all := make([]sketch, count)
	for i := range all {
		all[i] = blank()
		weight := count
		for _, l := range lists {
			weight /= len(l)
			if !all[i].add(l[i/weight%len(l)]) {
				return nil, tooMany
			}
		}
	}
	return all, count
}

// refAlts returns for a valid formula, whose classes there are, its alternatives and the least limit for which Alts
// returns them; none and tooMany, if there is no such limit.
func refAlts(f api.Formula) ([]Alt, int) {
	l, least := sketches(f, false)
	if least >= tooMany {
		return nil, tooMany
	}
	var alts []Alt
	for _, s := range l {
		alts = append(alts, s.alt())
	}
	return alts, least
}

// refFormula lists the kids as texts of the chapter have them.
func refFormula(a Alt) api.Formula {
	var kids []api.Formula
	for _, c := range a.Yes {
		kids = append(kids, class(c))
	}
	for _, c := range a.No {
		kids = append(kids, non(class(c)))
	}
	for _, n := range a.Nums {
		v := value(n.Attr, n.In...)
		if n.Absent {
			v = or(v, non(value(n.Attr, all)))
		}
		kids = append(kids, v)
	}
	for _, f := range a.Has {
		kids = append(kids, part(f))
	}
	for _, f := range a.None {
		kids = append(kids, non(part(f)))
	}
	return and(kids...)
}

func number(b bool) int {
	if b {
		return 1
	}
	return 0
}

// key returns a list of numbers whose order is that of formulas.
func key(f api.Formula) []int {
	k := []int{f.Op, f.N, len(f.In)}
	for _, x := range f.In {
		k = append(k, number(x.LoInf), number(x.LoOpen), x.Lo.Num, x.Lo.Den, number(x.HiInf), number(x.HiOpen), x.Hi.Num, x.Hi.Den)
	}
	k = append(k, len(f.Kids))
	for _, g := range f.Kids {
		k = append(k, key(g)...)
	}
	return k
}

func same(a, b api.Formula) bool { return slices.Equal(key(a), key(b)) }

func sameNum(a, b Num) bool {
	return a.Attr == b.Attr && a.Absent == b.Absent && slices.Equal(a.In, b.In)
}

func sameAlt(a, b Alt) bool {
	return slices.Equal(a.Yes, b.Yes) && slices.Equal(a.No, b.No) && slices.EqualFunc(a.Nums, b.Nums, sameNum) && slices.EqualFunc(a.Has, b.Has, same) && slices.EqualFunc(a.None, b.None, same)
}

func sameAlts(a, b []Alt) bool { return slices.EqualFunc(a, b, sameAlt) }

// compare returns a number with the sign of the difference of two ratios, which are small enough.
func compare(a, b api.Ratio) int { return a.Num*b.Den - b.Num*a.Den }

// inside reports whether a set has a number.
func inside(l []api.Interval, r api.Ratio) bool {
	return slices.ContainsFunc(l, func(x api.Interval) bool {
		above := x.LoInf || compare(r, x.Lo) > 0 || compare(r, x.Lo) == 0 && !x.LoOpen
		below := x.HiInf || compare(r, x.Hi) < 0 || compare(r, x.Hi) == 0 && !x.HiOpen
		return above && below
	})
}

// world is a taxonomy, with the parents of its classes, and a thing.
type world struct {
	x       *taxon.Taxon
	parents [][]int
	thing   api.Thing
}

func worldOf(t *testing.T, parents [][]int, x api.Thing) world {
	t.Helper()
	y, e := taxon.New(parents)
	if e != api.OK {
		t.Fatal(e)
	}
	return world{y, parents, x}
}

// isA reports whether class c is d or inherits from it.
func (w world) isA(c, d int) bool {
	return c == d || slices.ContainsFunc(w.parents[c], func(p int) bool { return w.isA(p, d) })
}

// belongs reports whether a thing belongs to a class or to one that inherits from it.
func (w world) belongs(x api.Thing, c int) bool {
	found := false
	for _, d := range x.Classes {
		found = found || w.isA(d, c)
	}
	return found
}

// satisfies reports whether a formula, which may be too large to be valid, holds for a thing.
func (w world) satisfies(x api.Thing, f api.Formula) bool {
	held := 0
	for _, k := range f.Kids {
		held += number(w.satisfies(x, k))
	}
	found := false
	switch f.Op {
	case api.OpTrue:
		return true
	case api.OpClass:
		return w.belongs(x, f.N)
	case api.OpValue:
		for _, v := range x.Values {
			found = found || v.Attr == f.N && inside(f.In, v.N)
		}
		return found
	case api.OpPart:
		for _, p := range x.Parts {
			found = found || w.satisfies(p, f.Kids[0])
		}
		return found
	case api.OpAnd:
		return held == len(f.Kids)
	case api.OpOr:
		return held > 0
	}
	return held == 0
}

// holds reports whether an alternative holds for the thing.
func (w world) holds(a Alt) bool {
	is := true
	for _, c := range a.Yes {
		is = is && w.belongs(w.thing, c)
	}
	for _, c := range a.No {
		is = is && !w.belongs(w.thing, c)
	}
	for _, n := range a.Nums {
		allowed := n.Absent
		for _, v := range w.thing.Values {
			if v.Attr == n.Attr {
				allowed = inside(n.In, v.N)
			}
		}
		is = is && allowed
	}
	for _, f := range a.Has {
		is = is && w.satisfies(w.thing, part(f))
	}
	for _, f := range a.None {
		is = is && !w.satisfies(w.thing, part(f))
	}
	return is
}

// clear reports whether a class of No is above one of Yes, or an attribute can have no value and cannot be absent.
func (w world) clear(a Alt) bool {
	found := false
	for _, c := range a.Yes {
		for _, d := range a.No {
			found = found || w.isA(c, d)
		}
	}
	for _, n := range a.Nums {
		found = found || !n.Absent && len(n.In) == 0
	}
	return found
}

var yes, no = api.Formula{}, api.Formula{Op: api.OpOr}

func of(op int, kids ...api.Formula) api.Formula { return api.Formula{Op: op, Kids: kids} }

func and(kids ...api.Formula) api.Formula { return of(api.OpAnd, kids...) }

func or(kids ...api.Formula) api.Formula { return of(api.OpOr, kids...) }

func non(f api.Formula) api.Formula { return of(api.OpNot, f) }

func part(f api.Formula) api.Formula { return of(api.OpPart, f) }

func class(n int) api.Formula { return api.Formula{Op: api.OpClass, N: n} }

func value(attr int, in ...api.Interval) api.Formula {
	return api.Formula{Op: api.OpValue, N: attr, In: in}
}

func ratio(num, den int) api.Ratio { return api.Ratio{Num: num, Den: den} }

// closed returns the interval from a to b, which are whole numbers, with both ends.
func closed(a, b int) api.Interval { return api.Interval{Lo: ratio(a, 1), Hi: ratio(b, 1)} }

// between returns the interval from a to b without its ends.
func between(a, b int) api.Interval {
	return api.Interval{Lo: ratio(a, 1), Hi: ratio(b, 1), LoOpen: true, HiOpen: true}
}

// below and above return the intervals of the numbers beyond a whole one, without it.
func below(a int) api.Interval { return api.Interval{LoInf: true, Hi: ratio(a, 1), HiOpen: true} }

func above(a int) api.Interval { return api.Interval{Lo: ratio(a, 1), LoOpen: true, HiInf: true} }

// all is the interval of all numbers.
var all = api.Interval{LoInf: true, HiInf: true}

// apart returns some intervals that are a set, if there are not too many. Two intervals of apart(n, 0) and apart(n, 1)
// have one number in common where they meet.
func apart(count, from int) []api.Interval {
	var l []api.Interval
	for i := range count {
		l = append(l, closed(2*i+from, 2*i+1+from))
	}
	return l
}

// within returns f within some nodes with an operation.
func within(levels, op int, f api.Formula) api.Formula {
	for range levels {
		f = of(op, f)
	}
	return f
}

// star returns OpAnd of so many formulas that it has some nodes.
func star(nodes int) api.Formula { return and(make([]api.Formula, nodes-1)...) }

// having returns a thing of some classes with some parts.
func having(classes []int, parts ...api.Thing) api.Thing {
	return api.Thing{Classes: classes, Parts: parts}
}

func val(attr, num, den int) api.Value { return api.Value{Attr: attr, N: ratio(num, den)} }

// diamond is a taxonomy: 1 and 2 inherit from 0, and 3 from both.
var diamond = [][]int{nil, {0}, {0}, {1, 2}}

// worlds returns some things under two taxonomies.
func worlds(t *testing.T) []world {
	valued := api.Thing{Classes: []int{1}, Values: []api.Value{val(0, 3, 2), val(1, -7, 1)}}
	two := api.Thing{Values: []api.Value{val(0, 2, 1)}, Parts: []api.Thing{valued}}
	var l []world
	for _, parents := range [][][]int{diamond, {{1}, nil, nil, nil}} {
		for _, x := range []api.Thing{{}, having([]int{0}), having([]int{1}), having([]int{2, 3}), valued, two, having(nil, having([]int{0}), two), having([]int{1}, having([]int{3}), api.Thing{}), having([]int{0, 1}, having(nil, valued))} {
			l = append(l, worldOf(t, parents, x))
		}
	}
	return l
}

// someSet returns a set of few intervals.
func someSet(rnd *rand.Rand) []api.Interval {
	var l []api.Interval
	touching := false
	for at := rnd.Intn(3) - 4; at < 5 && rnd.Intn(4) > 0; {
		x := api.Interval{Lo: ratio(at, 1), LoOpen: touching || rnd.Intn(2) == 0, HiOpen: rnd.Intn(2) == 0}
		at += 1 + rnd.Intn(4)
		x.Hi, touching = ratio(2*at-1, 2), false
		if rnd.Intn(2) == 0 {
			x.Hi, touching = ratio(at, 1), x.HiOpen
			at += number(!touching)
		}
		l = append(l, x)
	}
	if len(l) == 0 {
		return [][]api.Interval{nil, {all}, {closed(1, 1)}}[rnd.Intn(3)]
	}
	if rnd.Intn(3) == 0 {
		l[0].Lo, l[0].LoOpen, l[0].LoInf = api.Ratio{}, false, true
	}
	if last := &l[len(l)-1]; rnd.Intn(3) == 0 {
		last.Hi, last.HiOpen, last.HiInf = api.Ratio{}, false, true
	}
	return l
}

// someLeaf returns a formula without kids, of few classes and attributes.
func someLeaf(rnd *rand.Rand) api.Formula {
	switch rnd.Intn(8) {
	case 0:
		return []api.Formula{yes, no, and(), yes}[rnd.Intn(4)]
	case 1, 2, 3:
		return value(rnd.Intn(3), someSet(rnd)...)
	}
	return class(rnd.Intn(4))
}

// someFormula returns a valid formula of at most the given nodes and levels.
func someFormula(rnd *rand.Rand, nodes, levels int) api.Formula {
	if nodes <= 1 || levels <= 1 {
		return someLeaf(rnd)
	}
	f := of([]int{api.OpPart, api.OpAnd, api.OpOr, api.OpAnd, api.OpOr, api.OpNot}[rnd.Intn(6)])
	if f.Op == api.OpPart || f.Op == api.OpNot {
		f.Kids = []api.Formula{someFormula(rnd, nodes-1, levels-1)}
		return f
	}
	for left := nodes - 1; left > 0; {
		k := someFormula(rnd, 1+rnd.Intn(left), levels-1)
		f.Kids = append(f.Kids, k)
		left -= size(k)
		if left >= size(k) && rnd.Intn(12) == 0 {
			f.Kids = append(f.Kids, k)
			left -= size(k)
		}
	}
	return f
}

// size returns the number of nodes.
func size(f api.Formula) int {
	n := 1
	for _, k := range f.Kids {
		n += size(k)
	}
	return n
}

// deep returns the number of levels.
func deep(f api.Formula) int {
	n := 0
	for _, k := range f.Kids {
		n = max(n, deep(k))
	}
	return n + 1
}

// someThing returns a valid thing of few classes and attributes.
func someThing(rnd *rand.Rand, levels int) api.Thing {
	var x api.Thing
	for c := range 4 {
		if rnd.Intn(3) == 0 {
			x.Classes = append(x.Classes, c)
		}
	}
	for attr := range 3 {
		if rnd.Intn(2) == 0 {
			x.Values = append(x.Values, api.Value{Attr: attr, N: []api.Ratio{ratio(rnd.Intn(11)-5, 1), ratio(2*rnd.Intn(11)-11, 2)}[rnd.Intn(2)]})
		}
	}
	if levels > 1 {
		for range rnd.Intn(4) {
			x.Parts = append(x.Parts, someThing(rnd, levels-1))
		}
	}
	return x
}

// someWorlds returns random things under random taxonomies of four classes.
func someWorlds(t *testing.T, rnd *rand.Rand, count int) []world {
	var l []world
	for range count {
		order := rnd.Perm(4)
		parents := make([][]int, 4)
		for i, c := range order {
			for _, p := range order[:i] {
				if rnd.Intn(3) == 0 {
					parents[c] = append(parents[c], p)
				}
			}
			slices.Sort(parents[c])
		}
		l = append(l, worldOf(t, parents, someThing(rnd, 1+rnd.Intn(4))))
	}
	return l
}

// someAlt returns an alternative that is formed well, of few classes and attributes.
func someAlt(rnd *rand.Rand) Alt {
	s := blank()
	for range rnd.Intn(3) {
		s.yes[rnd.Intn(4)] = true
	}
	for range rnd.Intn(3) {
		s.no[rnd.Intn(4)] = true
	}
	for range rnd.Intn(3) {
		attr := rnd.Intn(3)
		s.nums[attr] = Num{Attr: attr, In: someSet(rnd), Absent: rnd.Intn(2) == 0}
	}
	for _, m := range []map[string]api.Formula{s.has, s.none} {
		for range rnd.Intn(3) {
			f := someFormula(rnd, 1+rnd.Intn(6), 4)
			m[text(f)] = f
		}
	}
	return s.alt()
}

package decide_test

import (
	"fmt"
	"math/rand"
	"slices"
	"testing"

	"priorart/api"
	"priorart/normal"
	"priorart/span"
	"priorart/taxon"
)

// There are two references. The first one says whether a formula is satisfiable without any alternatives: it goes through
// all sets of classes, one number from each stretch between the ends of sets, and all collections of parts, of which
// there are as many kinds as lists of truths that the formulas of parts can have. The second one says which thing is
// found and which error applies: it follows the words of the chapter, with what they name of packages normal and span.
// What holds for a thing is found by the definitions. Neither one calls package decide.

// world is a taxonomy, with the parents of its classes.
type world struct {
	x       *taxon.Taxon
	parents [][]int
}

func worldOf(t *testing.T, parents ...[]int) world {
	t.Helper()
	x, e := taxon.New(parents)
	if e != api.OK {
		t.Fatal(e)
	}
	return world{x, parents}
}

// diamond is the taxonomy of four classes in which 1 and 2 inherit from 0, and 3 from both.
func diamond(t *testing.T) world {
	t.Helper()
	return worldOf(t, nil, []int{0}, []int{0}, []int{1, 2})
}

// isA reports whether class c is d or inherits from it.
func (w world) isA(c, d int) bool {
	return c == d || slices.ContainsFunc(w.parents[c], func(p int) bool { return w.isA(p, d) })
}

// compare returns a number with the sign of the difference of two ratios, which are small enough.
func compare(a, b api.Ratio) int { return a.Num*b.Den - b.Num*a.Den }

// inside reports whether a set has a number.
func inside(l []api.Interval, r api.Ratio) bool {
	return slices.ContainsFunc(l, func(x api.Interval) bool {
		above := x.LoInf || compare(r, x.Lo) > 0 || compare(r, x.Lo) == 0 && !x.LoOpen
		below := x.HiInf || compare(r, x.Hi) < 0 || compare(r, x.Hi) == 0 && !x.HiOpen
		return above && below
	})
}

// holds reports whether a formula, which may be too large to be valid, holds for a thing. What holds for its parts is
// asked for by a function.
func (w world) holds(f api.Formula, classes []int, values []api.Value, inPart func(g api.Formula) bool) bool {
	held, found := 0, false
	for _, k := range f.Kids {
		if f.Op != api.OpPart && w.holds(k, classes, values, inPart) {
			held++
		}
	}
	switch f.Op {
	case api.OpTrue:
		return true
	case api.OpClass:
		for _, c := range classes {
			found = found || w.isA(c, f.N)
		}
		return found
	case api.OpValue:
		for _, v := range values {
			found = found || v.Attr == f.N && inside(f.In, v.N)
		}
		return found
	case api.OpPart:
		return inPart(f.Kids[0])
	case api.OpAnd:
		return held == len(f.Kids)
	case api.OpOr:
		return held > 0
	}
	return held == 0
}

// satisfies reports whether a formula holds for a thing.
func (w world) satisfies(t api.Thing, f api.Formula) bool {
	return w.holds(f, t.Classes, t.Values, func(g api.Formula) bool {
		return slices.ContainsFunc(t.Parts, func(p api.Thing) bool { return w.satisfies(p, g) })
	})
}

// own visits the nodes of formulas that say something of a thing itself: not those within an OpPart.
func own(l []api.Formula, visit func(f api.Formula)) {
	for _, f := range l {
		visit(f)
		if f.Op != api.OpPart {
			own(f.Kids, visit)
		}
	}
}

// stretches returns a number from each stretch between the ends of the sets of an attribute, and those ends.
func stretches(l []api.Formula, attr int) []api.Ratio {
	var ends []api.Ratio
	own(l, func(f api.Formula) {
		if f.Op != api.OpValue || f.N != attr {
			return
		}
		for _, x := range f.In {
			if !x.LoInf {
				ends = append(ends, x.Lo)
			}
			if !x.HiInf {
				ends = append(ends, x.Hi)
			}
		}
	})
	slices.SortFunc(ends, compare)
	ends = slices.CompactFunc(ends, func(a, b api.Ratio) bool { return compare(a, b) == 0 })
	if len(ends) == 0 {
		return []api.Ratio{{Num: 0, Den: 1}}
	}
	first, last := ends[0], ends[len(ends)-1]
	all := []api.Ratio{{Num: first.Num - first.Den, Den: first.Den}}
	for i, r := range ends {
		if i > 0 {
			q := ends[i-1]
			all = append(all, api.Ratio{Num: q.Num*r.Den + r.Num*q.Den, Den: 2 * q.Den * r.Den})
		}
		all = append(all, r)
	}
	return append(all, api.Ratio{Num: last.Num + last.Den, Den: last.Den})
}

// valuations returns lists of values such that formulas have each combination of truths that values can give them.
func valuations(l []api.Formula) [][]api.Value {
	var attrs []int
	own(l, func(f api.Formula) {
		if f.Op == api.OpValue {
			attrs = append(attrs, f.N)
		}
	})
	slices.Sort(attrs)
	all := [][]api.Value{nil}
	for _, attr := range slices.Compact(attrs) {
		var next [][]api.Value
		for _, values := range all {
			next = append(next, values)
			for _, r := range stretches(l, attr) {
				next = append(next, append(slices.Clone(values), api.Value{Attr: attr, N: r}))
			}
		}
		all = next
	}
	return all
}

// truths is a list of truths, one bit for each formula of a list.
type truths uint64

// possible returns the lists of truths that formulas can have for a thing, all things considered.
func (w world) possible(l []api.Formula) map[truths]bool {
	inParts := map[string]int{}
	var parts []api.Formula
	own(l, func(f api.Formula) {
		if _, ok := inParts[text(f)]; f.Op == api.OpPart && !ok {
			inParts[text(f)] = len(parts)
			parts = append(parts, f.Kids[0])
		}
	})
	collections := map[truths]bool{0: true}
	if len(parts) > 0 {
		for kind := range w.possible(parts) {
			for c := range copyOf(collections) {
				collections[c|kind] = true
			}
		}
	}
	all := map[truths]bool{}
	for classes := range 1 << len(w.parents) {
		var of []int
		for c := range w.parents {
			if classes>>c&1 == 1 {
				of = append(of, c)
			}
		}
		for _, values := range valuations(l) {
			for c := range collections {
				var these truths
				for i, f := range l {
					if w.holds(f, of, values, func(g api.Formula) bool { return c>>inParts[text(part(g))]&1 == 1 }) {
						these |= 1 << i
					}
				}
				all[these] = true
			}
		}
	}
	return all
}

func copyOf(m map[truths]bool) map[truths]bool {
	c := map[truths]bool{}
	for k := range m {
		c[k] = true
	}
	return c
}

// satisfiable reports whether a formula holds for some thing.
func (w world) satisfiable(f api.Formula) bool { return w.possible([]api.Formula{f})[1] }

// outcome is what Sat returns.
type outcome struct {
	thing api.Thing
	some  bool
	e     api.Errno
}

// sat returns what the chapter's words say of Sat.
func (w world) sat(f api.Formula) outcome {
	o := w.examined(f)
	if o.some && nodes(o.thing) > 96 {
		return outcome{e: api.ErrLimit}
	}
	return o
}

// examined returns what is found for a formula, in normal form but perhaps too large.
func (w world) examined(f api.Formula) outcome {
	alts, e := normal.Alts(w.x, f, 64)
	if e != api.OK {
		return outcome{e: e}
	}
	return w.first(alts)
}

// first returns what is found for the first alternative that is not passed over.
func (w world) first(alts []normal.Alt) outcome {
	if len(alts) == 0 {
		return outcome{}
	}
	a := alts[0]
	if w.contradicts(a) {
		return w.first(alts[1:])
	}
	parts, all, e := w.partsFor(a.Has, a.None)
	if e != api.OK {
		return outcome{e: e}
	}
	if !all {
		return w.first(alts[1:])
	}
	t := api.Thing{Classes: a.Yes, Parts: parts}
	for _, n := range a.Nums {
		if !n.Absent {
			r, _, _ := span.Pick(n.In)
			t.Values = append(t.Values, api.Value{Attr: n.Attr, N: r})
		}
	}
	slices.SortFunc(t.Parts, func(p, q api.Thing) int { return slices.Compare(order(p), order(q)) })
	return outcome{thing: t, some: true}
}

// partsFor returns a part for each formula of a list, for which none of another list holds, and whether there are all.
func (w world) partsFor(has, none []api.Formula) ([]api.Thing, bool, api.Errno) {
	if len(has) == 0 {
		return nil, true, api.OK
	}
	f := has[0]
	if len(none) > 0 {
		f = and(f)
		for _, g := range none {
			f = and(append(slices.Clone(f.Kids), non(g))...)
		}
	}
	o := w.examined(f)
	if !o.some {
		return nil, false, o.e
	}
	others, all, e := w.partsFor(has[1:], none)
	return append([]api.Thing{o.thing}, others...), all, e
}

// contradicts reports whether a class of No is above one of Yes, or an attribute can have no value and cannot be absent.
func (w world) contradicts(a normal.Alt) bool {
	found := false
	for _, c := range a.Yes {
		for _, d := range a.No {
			found = found || w.isA(c, d)
		}
	}
	for _, n := range a.Nums {
		found = found || !n.Absent && len(n.In) == 0
	}
	return found
}

// nodes returns the number of nodes of a thing.
func nodes(t api.Thing) int {
	n := 1
	for _, p := range t.Parts {
		n += nodes(p)
	}
	return n
}

// order returns a list of numbers, in which an end of a list is less than all of its elements, so that the lists of
// things are in the order of things.
func order(t api.Thing) []int {
	const end, more = -2, -1
	var l []int
	for _, c := range t.Classes {
		l = append(l, more, c)
	}
	l = append(l, end)
	for _, v := range t.Values {
		l = append(l, more, v.Attr, v.N.Num, v.N.Den)
	}
	l = append(l, end)
	for _, p := range t.Parts {
		l = append(append(l, more), order(p)...)
	}
	return append(l, end)
}

func sameThing(a, b api.Thing) bool { return slices.Equal(order(a), order(b)) }

// text returns a text that only equal formulas have.
func text(f api.Formula) string {
	s := fmt.Sprint("(", f.Op, f.N, f.In)
	for _, k := range f.Kids {
		s += text(k)
	}
	return s + ")"
}

var yes, no = api.Formula{}, api.Formula{Op: api.OpOr}

func of(op int, kids ...api.Formula) api.Formula { return api.Formula{Op: op, Kids: kids} }

func and(kids ...api.Formula) api.Formula { return of(api.OpAnd, kids...) }

func or(kids ...api.Formula) api.Formula { return of(api.OpOr, kids...) }

func non(f api.Formula) api.Formula { return of(api.OpNot, f) }

func part(f api.Formula) api.Formula { return of(api.OpPart, f) }

func class(n int) api.Formula { return api.Formula{Op: api.OpClass, N: n} }

func value(attr int, in ...api.Interval) api.Formula {
	return api.Formula{Op: api.OpValue, N: attr, In: in}
}

func ratio(num, den int) api.Ratio { return api.Ratio{Num: num, Den: den} }

// closed returns the interval from a to b, which are whole numbers, with both ends.
func closed(a, b int) api.Interval { return api.Interval{Lo: ratio(a, 1), Hi: ratio(b, 1)} }

// open returns the interval between two ratios, without them.
func open(a, b api.Ratio) api.Interval {
	return api.Interval{Lo: a, Hi: b, LoOpen: true, HiOpen: true}
}

// below and above return the intervals of the numbers beyond a whole one, without it.
func below(a int) api.Interval { return api.Interval{LoInf: true, Hi: ratio(a, 1), HiOpen: true} }

func above(a int) api.Interval { return api.Interval{Lo: ratio(a, 1), LoOpen: true, HiInf: true} }

// all is the interval of all numbers.
var all = api.Interval{LoInf: true, HiInf: true}

// apart returns some intervals that are a set, if there are not too many. Two intervals of apart(n, 0) and apart(n, 1)
// have one number in common where they meet.
func apart(count, from int) []api.Interval {
	var l []api.Interval
	for i := range count {
		l = append(l, closed(2*i+from, 2*i+1+from))
	}
	return l
}

// within returns f within some nodes with an operation.
func within(levels, op int, f api.Formula) api.Formula {
	for range levels {
		f = of(op, f)
	}
	return f
}

// star returns OpAnd of so many formulas that it has some nodes.
func star(nodes int) api.Formula { return and(make([]api.Formula, nodes-1)...) }

// choice returns a formula with so many alternatives.
func choice(count int) api.Formula { return or(slices.Repeat([]api.Formula{class(1)}, count)...) }

// having returns a thing of some classes with some parts.
func having(classes []int, parts ...api.Thing) api.Thing {
	return api.Thing{Classes: classes, Parts: parts}
}

// valued returns a thing with a value.
func valued(attr, num, den int) api.Thing {
	return api.Thing{Values: []api.Value{{Attr: attr, N: ratio(num, den)}}}
}

// size returns the number of nodes of a formula.
func size(f api.Formula) int {
	n := 1
	for _, k := range f.Kids {
		n += size(k)
	}
	return n
}

// deep returns the number of levels of a formula.
func deep(f api.Formula) int {
	n := 0
	for _, k := range f.Kids {
		n = max(n, deep(k))
	}
	return n + 1
}

// someWorld returns a random taxonomy.
func someWorld(t *testing.T, rnd *rand.Rand, count int) world {
	t.Helper()
	order := rnd.Perm(count)
	parents := make([][]int, count)
	for i, c := range order {
		for _, p := range order[:i] {
			if rnd.Intn(3) == 0 {
				parents[c] = append(parents[c], p)
			}
		}
		slices.Sort(parents[c])
	}
	return worldOf(t, parents...)
}

// someSet returns a set of few intervals.
func someSet(rnd *rand.Rand) []api.Interval {
	sets := [][]api.Interval{nil, {all}, {closed(1, 1)}, {closed(1, 3)}, {closed(2, 4)}, {below(2)}, {above(1)}, {below(1), above(3)}, {open(ratio(1, 1), ratio(2, 1))}, {open(ratio(1, 2), ratio(2, 1)), open(ratio(2, 1), ratio(3, 1))}, {{LoInf: true, Hi: ratio(1, 1)}}, {{Lo: ratio(3, 1), HiInf: true}}, {closed(-2, -1), above(2)}}
	return slices.Clone(sets[rnd.Intn(len(sets))])
}

// someLeaf returns a formula without kids, of few classes and attributes.
func someLeaf(rnd *rand.Rand) api.Formula {
	switch rnd.Intn(8) {
	case 0:
		return []api.Formula{yes, no, and(), yes}[rnd.Intn(4)]
	case 1, 2:
		return value(rnd.Intn(2), someSet(rnd)...)
	}
	return class(rnd.Intn(3))
}

// someFormula returns a valid formula of at most the given nodes and levels, with many parts.
func someFormula(rnd *rand.Rand, nodes, levels int) api.Formula {
	if nodes <= 1 || levels <= 1 {
		return someLeaf(rnd)
	}
	f := of([]int{api.OpPart, api.OpAnd, api.OpOr, api.OpAnd, api.OpPart, api.OpNot}[rnd.Intn(6)])
	if f.Op == api.OpPart || f.Op == api.OpNot {
		f.Kids = []api.Formula{someFormula(rnd, nodes-1, levels-1)}
		return f
	}
	for left := nodes - 1; left > 0; {
		k := someFormula(rnd, 1+rnd.Intn(left), levels-1)
		f.Kids = append(f.Kids, k)
		left -= size(k)
	}
	return f
}

// someThing returns a valid thing of few classes and attributes.
func someThing(rnd *rand.Rand, levels int) api.Thing {
	var x api.Thing
	for c := range 3 {
		if rnd.Intn(3) == 0 {
			x.Classes = append(x.Classes, c)
		}
	}
	for attr := range 2 {
		if rnd.Intn(2) == 0 {
			x.Values = append(x.Values, api.Value{Attr: attr, N: []api.Ratio{ratio(rnd.Intn(8)-3, 1), ratio(2*rnd.Intn(8)-5, 2)}[rnd.Intn(2)]})
		}
	}
	if levels > 1 {
		for range rnd.Intn(4) {
			x.Parts = append(x.Parts, someThing(rnd, levels-1))
		}
	}
	return x
}

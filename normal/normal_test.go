package normal

import (
	"math"
	"math/rand"
	"slices"
	"testing"

	"priorart/api"
	"priorart/formula"
	"priorart/span"
	"priorart/taxon"
	"priorart/thing"
)

// atLimits compares Alts with the reference for some limits, and returns what the reference returns.
func atLimits(t *testing.T, x *taxon.Taxon, f api.Formula, limits func(least int) []int) ([]Alt, int) {
	t.Helper()
	want, least := refAlts(f)
	for _, most := range limits(least) {
		l, e := Alts(x, f, most)
		if most < 1 || most > 64 {
			if e != api.ErrArg || len(l) > 0 {
				t.Fatalf("Alts(%v, %d): %v, %d", f, most, l, e)
			}
			continue
		}
		if most < least && (e != api.ErrLimit || len(l) > 0) || most >= least && (e != api.OK || !sameAlts(l, want)) {
			t.Fatalf("Alts(%v, %d): %v, %d instead of %v from %d on", f, most, l, e, want, least)
		}
	}
	return want, least
}

// every is all limits, and one beyond on both sides; near those where something changes.
func every(int) []int {
	l := make([]int, 66)
	for i := range l {
		l[i] = i
	}
	return l
}

func near(least int) []int { return []int{1, least - 1, least, least + 1, 64} }

// inWorlds checks an alternative: Formula, and Holds and Clear in some worlds.
func inWorlds(t *testing.T, a Alt, l []world) {
	t.Helper()
	f := Formula(a)
	if !same(f, refFormula(a)) {
		t.Fatalf("Formula(%v): %v", a, f)
	}
	for _, w := range l {
		is, e := Holds(w.x, a, w.thing)
		if e != api.OK || is != w.holds(a) || is != w.satisfies(w.thing, f) {
			t.Fatalf("Holds(%v, %v): %v, %d", a, w.thing, is, e)
		}
		clear, e := Clear(w.x, a)
		if e != api.OK || clear != w.clear(a) || clear && is {
			t.Fatalf("Clear(%v) under %v: %v, %d; it holds for %v: %v", a, w.parents, clear, e, w.thing, is)
		}
	}
}

// meaning checks P9.5 to P9.7 for the alternatives of a formula, and returns in how many worlds it holds.
func meaning(t *testing.T, f api.Formula, alts []Alt, l []world) int {
	t.Helper()
	for _, a := range alts {
		if !refFormed(a) {
			t.Fatalf("%v has the alternative %v", f, a)
		}
		inWorlds(t, a, l)
	}
	held := 0
	for _, w := range l {
		some := slices.ContainsFunc(alts, func(a Alt) bool { is, _ := Holds(w.x, a, w.thing); return is })
		is, e := formula.Holds(w.x, f, w.thing)
		if e != api.OK || is != some || is != w.satisfies(w.thing, f) {
			t.Fatalf("%v for %v: %v, %d; its alternatives %v: %v", f, w.thing, is, e, alts, some)
		}
		held += number(is)
	}
	return held
}

// P9.1: cases that were worked out by hand.
func TestAlts(t *testing.T) {
	x, _ := taxon.New(diamond)
	in, out := []api.Interval{closed(1, 3)}, []api.Interval{below(1), above(3)}
	v := value(5, in...)
	num := func(attr int, absent bool, in ...api.Interval) Alt { return Alt{Nums: []Num{{attr, in, absent}}} }
	yeses := func(l ...[]int) []Alt {
		var alts []Alt
		for _, c := range l {
			alts = append(alts, Alt{Yes: c})
		}
		return alts
	}
	one := func(a Alt) []Alt { return []Alt{a} }
	has := func(l ...api.Formula) []Alt { return one(Alt{Has: l}) }
	none := func(l ...api.Formula) []Alt { return one(Alt{None: l}) }
	two, more := or(class(0), class(1)), or(class(2), class(3), class(0))
	for i, c := range []struct {
		f    api.Formula
		want []Alt
	}{
		// The rows of the table, for formulas without kids and for parts.
		{yes, one(Alt{})}, {non(yes), nil}, {class(2), yeses([]int{2})}, {class(0), yeses([]int{0})}, {non(class(2)), one(Alt{No: []int{2}})}, {v, one(num(5, false, in...))}, {non(v), one(num(5, true, out...))},
		{value(0), one(num(0, false))}, {non(value(0)), one(num(0, true, all))}, {value(31, all), one(num(31, false, all))}, {non(value(31, all)), one(num(31, true))}, {non(value(1, below(1), above(3))), one(num(1, true, in...))}, {non(value(1, between(1, 3))), one(num(1, true, api.Interval{LoInf: true, Hi: ratio(1, 1)}, api.Interval{Lo: ratio(3, 1), HiInf: true}))},
		{part(class(1)), has(class(1))}, {non(part(class(1))), none(class(1))}, {part(no), has(no)}, {non(part(yes)), none(yes)}, {part(part(class(0))), has(part(class(0)))},
		// Formulas within a part stay as they are.
		{part(two), has(two)}, {part(and(class(2), class(1))), has(and(class(2), class(1)))}, {part(non(two)), has(non(two))}, {non(part(non(non(two)))), none(non(non(two)))}, {part(and(yes, v, v)), has(and(yes, v, v))}, {part(or(part(two))), has(or(part(two)))},
		// Negations.
		{non(non(yes)), one(Alt{})}, {non(non(class(2))), yeses([]int{2})}, {non(non(v)), one(num(5, false, in...))}, {non(non(non(v))), one(num(5, true, out...))}, {non(non(two)), yeses([]int{0}, []int{1})}, {non(non(part(class(1)))), has(class(1))}, {non(non(non(part(class(1))))), none(class(1))}, {within(6, api.OpNot, no), nil}, {within(7, api.OpNot, no), one(Alt{})},
		// OpOr and OpAnd, and their negations.
		{no, nil}, {and(), one(Alt{})}, {non(no), one(Alt{})}, {non(and()), nil}, {or(class(1)), yeses([]int{1})}, {and(class(1)), yeses([]int{1})}, {non(or(class(1))), one(Alt{No: []int{1}})}, {non(and(class(1))), one(Alt{No: []int{1}})}, {or(yes), one(Alt{})}, {and(yes, yes), one(Alt{})}, {and(no), nil}, {or(no), nil},
		{or(class(3), class(1), class(2)), yeses([]int{3}, []int{1}, []int{2})}, {or(class(1), class(1)), yeses([]int{1}, []int{1})}, {or(class(2), no, two, yes), yeses([]int{2}, []int{0}, []int{1}, nil)}, {or(class(3), non(class(1)), v), []Alt{{Yes: []int{3}}, {No: []int{1}}, num(5, false, in...)}}, {or(yes, yes), []Alt{{}, {}}}, {or(and(class(2), class(1)), class(0)), yeses([]int{1, 2}, []int{0})},
		{and(class(3), class(1), class(2)), yeses([]int{1, 2, 3})}, {and(class(1), class(1)), yeses([]int{1})}, {and(class(1), yes), yeses([]int{1})}, {and(yes, class(1)), yeses([]int{1})}, {and(class(1), no), nil}, {and(no, class(1)), nil}, {and(two, no), nil}, {and(no, two), nil}, {and(class(0), class(3)), yeses([]int{0, 3})},
		{and(two, more), yeses([]int{0, 2}, []int{0, 3}, []int{0}, []int{1, 2}, []int{1, 3}, []int{0, 1})}, {and(more, two), yeses([]int{0, 2}, []int{1, 2}, []int{0, 3}, []int{1, 3}, []int{0}, []int{0, 1})}, {and(two, class(3), two), yeses([]int{0, 3}, []int{0, 1, 3}, []int{0, 1, 3}, []int{1, 3})}, {and(or(class(0), yes), or(yes, class(1))), yeses([]int{0}, []int{0, 1}, nil, []int{1})},
		{non(or(class(3), class(1), class(2))), one(Alt{No: []int{1, 2, 3}})}, {non(and(class(3), class(1))), []Alt{{No: []int{3}}, {No: []int{1}}}}, {non(or(yes, class(1))), nil}, {non(and(yes, class(1))), one(Alt{No: []int{1}})}, {non(or(no, class(1))), one(Alt{No: []int{1}})}, {non(and(no, class(1))), []Alt{{}, {No: []int{1}}}},
		{non(or(non(class(2)), non(class(0)))), yeses([]int{0, 2})}, {non(and(non(class(2)), class(0))), []Alt{{Yes: []int{2}}, {No: []int{0}}}}, {non(or(and(class(0), class(1)), and(class(2), class(3)))), []Alt{{No: []int{0, 2}}, {No: []int{0, 3}}, {No: []int{1, 2}}, {No: []int{1, 3}}}}, {non(and(or(class(2), class(1)), class(3))), []Alt{{No: []int{1, 2}}, {No: []int{3}}}}, {non(and(non(or(class(1), class(2))), v)), []Alt{{Yes: []int{1}}, {Yes: []int{2}}, num(5, true, out...)}},
		// What is joined: a class may be in both lists.
		{and(class(1), non(class(1)), class(0), non(class(3)), non(class(0))), one(Alt{Yes: []int{0, 1}, No: []int{0, 1, 3}})}, {and(part(class(2)), part(class(1)), non(part(class(2))), part(class(2)), non(part(class(1))), non(part(class(2)))), one(Alt{Has: []api.Formula{class(1), class(2)}, None: []api.Formula{class(1), class(2)}})}, {and(part(two), part(v), part(yes)), has(yes, v, two)}, {non(or(part(two), part(v), part(yes), part(v))), none(yes, v, two)},
		{and(value(9, all), value(3, in...), value(31), value(0, all)), one(Alt{Nums: []Num{{Attr: 0, In: []api.Interval{all}}, {Attr: 3, In: in}, {Attr: 9, In: []api.Interval{all}}, {Attr: 31}}})}, {and(v, non(value(4, in...))), one(Alt{Nums: []Num{{4, out, true}, {5, in, false}}})},
		{and(v, value(5, closed(2, 4))), one(num(5, false, closed(2, 3)))}, {and(v, non(value(5, closed(2, 4)))), one(num(5, false, api.Interval{Lo: ratio(1, 1), Hi: ratio(2, 1), HiOpen: true}))}, {and(non(value(5, closed(2, 4))), v), one(num(5, false, api.Interval{Lo: ratio(1, 1), Hi: ratio(2, 1), HiOpen: true}))}, {and(non(v), non(value(5, closed(2, 4)))), one(num(5, true, below(1), above(4)))}, {and(v, non(v)), one(num(5, false))}, {and(non(v), v), one(num(5, false))}, {and(v, v, v), one(num(5, false, in...))}, {and(non(value(5, all)), non(v)), one(num(5, true))}, {and(value(5, all), non(value(5))), one(num(5, false, all))},
		{and(value(5, closed(0, 6)), value(6, in...), value(5, closed(2, 9)), non(value(5, closed(4, 5)))), one(Alt{Nums: []Num{{5, []api.Interval{{Lo: ratio(2, 1), Hi: ratio(4, 1), HiOpen: true}, {Lo: ratio(5, 1), Hi: ratio(6, 1), LoOpen: true}}, false}, {6, in, false}}})}, {and(or(v, value(6, in...)), value(5, closed(3, 8))), []Alt{num(5, false, closed(3, 3)), {Nums: []Num{{5, []api.Interval{closed(3, 8)}, false}, {6, in, false}}}}},
		{and(or(class(0), part(yes)), non(part(class(1))), or(non(class(2)), v)), []Alt{{Yes: []int{0}, No: []int{2}, None: []api.Formula{class(1)}}, {Yes: []int{0}, Nums: []Num{{5, in, false}}, None: []api.Formula{class(1)}}, {No: []int{2}, Has: []api.Formula{yes}, None: []api.Formula{class(1)}}, {Nums: []Num{{5, in, false}}, Has: []api.Formula{yes}, None: []api.Formula{class(1)}}}},
	} {
		l, e := Alts(x, c.f, 64)
		if e != api.OK || !sameAlts(l, c.want) {
			t.Errorf("case %d: Alts(%v): %v, %d", i, c.f, l, e)
		}
		atLimits(t, x, c.f, every)
		// The same within nodes that change nothing.
		for _, f := range []api.Formula{or(c.f), and(c.f), non(non(c.f)), and(yes, c.f), or(no, c.f)} {
			if l, e := Alts(x, f, 64); e != api.OK && deep(f) <= 8 || e == api.OK && !sameAlts(l, c.want) {
				t.Errorf("case %d within %v: %v, %d", i, f, l, e)
			}
		}
	}
}

// P9.1: the errors, in their order.
func TestAltsErrors(t *testing.T) {
	x, _ := taxon.New(diamond)
	empty, _ := taxon.New(nil)
	whole, _ := taxon.New(make([][]int, 64))
	bad, large, wide := class(64), star(97), or(class(0), class(1))
	for i, c := range []struct {
		x    *taxon.Taxon
		f    api.Formula
		most int
		e    api.Errno
	}{
		{nil, yes, 64, api.ErrArg}, {nil, large, 64, api.ErrArg}, {nil, class(9), 0, api.ErrArg}, {x, yes, 0, api.ErrArg}, {x, no, 0, api.ErrArg}, {x, yes, -1, api.ErrArg}, {x, yes, 65, api.ErrArg}, {x, yes, math.MaxInt, api.ErrArg}, {x, yes, math.MinInt, api.ErrArg}, {x, large, 0, api.ErrArg}, {x, large, 65, api.ErrArg}, {x, class(4), 65, api.ErrArg},
		{x, bad, 1, api.ErrArg}, {x, class(-1), 64, api.ErrArg}, {x, large, 64, api.ErrLimit}, {x, within(8, api.OpNot, yes), 64, api.ErrLimit}, {x, and(star(95), bad), 64, api.ErrLimit}, {x, and(class(9), bad), 64, api.ErrArg}, {x, part(bad), 64, api.ErrArg}, {x, and(wide, bad), 1, api.ErrArg}, {x, value(32), 64, api.ErrArg}, {x, value(0, closed(2, 1)), 64, api.ErrArg}, {x, value(0, apart(33, 0)...), 64, api.ErrArg}, {x, of(7), 64, api.ErrArg}, {x, of(api.OpNot), 64, api.ErrArg}, {x, of(api.OpPart, yes, yes), 64, api.ErrArg}, {x, or(no, of(-1)), 64, api.ErrArg},
		{x, class(4), 64, api.ErrNone}, {x, class(63), 64, api.ErrNone}, {x, non(class(4)), 64, api.ErrNone}, {x, part(class(4)), 64, api.ErrNone}, {x, non(part(class(4))), 64, api.ErrNone}, {x, within(7, api.OpPart, class(4)), 64, api.ErrNone}, {x, part(and(yes, or(class(0), non(class(5))))), 64, api.ErrNone}, {x, and(no, class(4)), 64, api.ErrNone}, {x, or(yes, class(4)), 64, api.ErrNone}, {x, or(yes, part(class(4))), 64, api.ErrNone},
		{x, or(wide, class(4)), 1, api.ErrNone}, {x, and(wide, wide, class(4)), 1, api.ErrNone}, {x, and(non(value(0, apart(32, 0)...)), class(4)), 64, api.ErrNone}, {empty, class(0), 64, api.ErrNone}, {empty, part(class(0)), 64, api.ErrNone},
		{x, wide, 1, api.ErrLimit}, {x, class(3), 64, api.OK}, {x, class(3), 1, api.OK}, {empty, part(non(value(2))), 1, api.OK}, {whole, class(63), 1, api.OK}, {whole, non(part(class(63))), 1, api.OK}, {whole, bad, 1, api.ErrArg},
	} {
		if l, e := Alts(c.x, c.f, c.most); e != c.e || (len(l) == 1) != (e == api.OK) || e != api.OK && len(l) > 0 {
			t.Errorf("case %d: %v, %d", i, l, e)
		}
	}
}

// choice returns a formula with so many alternatives.
func choice(count int) api.Formula { return or(slices.Repeat([]api.Formula{class(1)}, count)...) }

// P9.1 and P9.8: the least limit for which there are alternatives, and their number; 65, if there is no such limit.
func TestAltsLimit(t *testing.T) {
	x, _ := taxon.New(diamond)
	two, three, eight := choice(2), choice(3), choice(8)
	nots := func(l ...api.Formula) []api.Formula {
		for i := range l {
			l[i] = non(l[i])
		}
		return l
	}
	// Both sets have 32 intervals, and 63 numbers in common.
	even, odd := value(0, apart(32, 0)...), value(0, apart(32, 1)...)
	half, other := value(0, apart(16, 0)...), value(0, apart(17, 1)...)
	few := value(0, apart(31, 0)...)
	for i, c := range []struct {
		f            api.Formula
		least, count int
	}{
		{no, 1, 0}, {yes, 1, 1}, {two, 2, 2}, {choice(64), 64, 64}, {choice(65), 65, 0}, {choice(95), 65, 0}, {or(two, three), 5, 5}, {or(choice(30), choice(34)), 64, 64}, {or(choice(30), choice(35)), 65, 0}, {or(no, choice(64), no), 64, 64}, {or(choice(64), yes), 65, 0},
		{and(two, three), 6, 6}, {and(eight, eight), 64, 64}, {and(eight, choice(9)), 65, 0}, {and(two, two, two, two, two, two), 64, 64}, {and(two, two, two, two, two, two, two), 65, 0}, {and(choice(64), yes, class(2)), 64, 64}, {and(and(two, three), and(three, two)), 36, 36}, {and(or(two, three), or(yes, yes)), 10, 10},
		// All lists of kids are needed.
		{and(two, no), 2, 0}, {and(no, two), 2, 0}, {and(three, no, two), 3, 0}, {and(no, eight, no), 8, 0}, {and(no, choice(65)), 65, 0}, {and(choice(65), no), 65, 0}, {and(no, or(no, choice(64), yes)), 65, 0}, {and(no, and(two, three), eight), 8, 0}, {and(no, and(three, three)), 9, 0}, {and(no, and(eight, choice(9))), 65, 0}, {or(and(no, eight), two), 8, 2}, {non(or(and(yes, no), eight)), 1, 0 + 1*1*2 - 1},
		// The products of the first ones are, too, but not those of others.
		{and(two, three, no), 6, 0}, {and(no, two, three), 3, 0}, {and(two, no, three), 3, 0}, {and(eight, eight, no), 64, 0}, {and(eight, choice(9), no), 65, 0}, {and(no, eight, choice(9)), 9, 0}, {and(eight, no, choice(9)), 9, 0}, {and(two, three, three, no, eight), 18, 0}, {and(yes, two, yes, three, no, two), 6, 0}, {or(two, and(three, two, no)), 6, 2},
		// What is within a part is not divided.
		{part(choice(64)), 1, 1}, {part(choice(90)), 1, 1}, {non(part(choice(90))), 1, 1}, {part(and(no, eight, eight, eight)), 1, 1}, {and(part(choice(80)), two), 2, 2}, {part(non(even)), 1, 1}, {non(part(non(even))), 1, 1}, {part(and(even, odd)), 1, 1},
		// Negated, OpAnd and OpOr change places.
		{non(and(slices.Repeat([]api.Formula{class(1)}, 64)...)), 64, 64}, {non(and(slices.Repeat([]api.Formula{class(1)}, 65)...)), 65, 0}, {non(or(slices.Repeat([]api.Formula{class(1)}, 90)...)), 1, 1}, {non(choice(90)), 1, 1}, {non(or(nots(two, three)...)), 6, 6}, {non(and(nots(two, three)...)), 5, 5}, {non(or(nots(eight, choice(9))...)), 65, 0}, {non(or(nots(two, three, no)...)), 6, 0}, {non(or(yes, non(two))), 2, 0}, {non(or(non(two), yes)), 2, 0}, {non(and(non(choice(40)), non(choice(25)))), 65, 0}, {non(or(yes, and(class(0), class(1), class(2)))), 3, 0}, {non(non(and(two, three, no))), 6, 0},
		// span.Not of 32 intervals has 33 of them.
		{even, 1, 1}, {non(even), 65, 0}, {non(few), 1, 1}, {non(non(even)), 1, 1}, {non(non(non(even))), 65, 0}, {and(no, non(even)), 65, 0}, {and(non(even), no), 65, 0}, {or(yes, non(even)), 65, 0}, {non(and(yes, even)), 65, 0}, {non(or(yes, even)), 65, 0}, {non(or(even, yes)), 65, 0}, {non(and(non(even), yes)), 1, 1}, {and(no, or(class(0), and(non(even), no))), 65, 0}, {non(value(3, append(apart(31, 0), api.Interval{Lo: ratio(99, 1), HiInf: true})...)), 1, 1}, {non(value(3, append([]api.Interval{{LoInf: true, Hi: ratio(-1, 1)}}, apart(32, 0)[1:]...)...)), 1, 1},
		// span.Meet has too many, where it is needed: not behind an empty product.
		{and(even, odd), 65, 0}, {and(odd, even), 65, 0}, {and(half, other), 1, 1}, {and(even, value(1, odd.In...)), 1, 1}, {or(even, odd), 2, 2}, {and(even, even), 1, 1}, {and(even, odd, no), 65, 0}, {and(no, even, odd), 1, 0}, {and(even, no, odd), 1, 0}, {and(no, and(even, odd)), 65, 0}, {and(even, value(0), odd), 1, 1}, {and(even, odd, value(0)), 65, 0}, {and(value(0), even, odd), 1, 1}, {and(value(0), and(even, odd)), 65, 0}, {and(or(even, half), or(other, half)), 65, 0}, {and(or(few, half), or(half, value(0, apart(3, 1)...))), 4, 4}, {and(even, or(class(0), odd)), 65, 0}, {and(or(class(0), even), value(1, all), odd), 65, 0}, {non(or(non(even), non(odd))), 65, 0}, {non(or(non(even), yes, non(odd))), 1, 0}, {non(and(non(even), non(odd))), 2, 2}, {and(even, non(few), odd), 1, 1},
	} {
		if l, least := atLimits(t, x, c.f, every); least != c.least || len(l) != c.count {
			t.Errorf("case %d: the reference has %d alternatives from %d on", i, len(l), least)
		}
	}
}

// P9.2: cases that were worked out by hand; an alternative may be any one.
func TestFormula(t *testing.T) {
	in := []api.Interval{closed(1, 3), above(7)}
	absent := func(attr int, in ...api.Interval) api.Formula { return or(value(attr, in...), non(value(attr, all))) }
	for i, c := range []struct {
		a    Alt
		want api.Formula
	}{
		{Alt{}, and()}, {Alt{Yes: []int{}, Nums: []Num{}, None: []api.Formula{}}, and()}, {Alt{Yes: []int{2}}, and(class(2))}, {Alt{Yes: []int{0, 63}}, and(class(0), class(63))}, {Alt{No: []int{0}}, and(non(class(0)))}, {Alt{No: []int{1, 2}}, and(non(class(1)), non(class(2)))},
		{Alt{Nums: []Num{{5, in, false}}}, and(value(5, in...))}, {Alt{Nums: []Num{{5, in, true}}}, and(absent(5, in...))}, {Alt{Nums: []Num{{Attr: 0}}}, and(value(0))}, {Alt{Nums: []Num{{Attr: 0, Absent: true}}}, and(absent(0))}, {Alt{Nums: []Num{{3, []api.Interval{all}, true}, {4, in, false}, {5, nil, true}}}, and(absent(3, all), value(4, in...), absent(5))},
		{Alt{Has: []api.Formula{class(1), no}}, and(part(class(1)), part(no))}, {Alt{None: []api.Formula{yes, part(class(2))}}, and(non(part(yes)), non(part(part(class(2)))))},
		{Alt{Yes: []int{4, 5}, No: []int{1}, Nums: []Num{{2, in, true}, {3, in, false}}, Has: []api.Formula{yes, class(7)}, None: []api.Formula{no}}, and(class(4), class(5), non(class(1)), absent(2, in...), value(3, in...), part(yes), part(class(7)), non(part(no)))},
		// Not formed well.
		{Alt{Yes: []int{3, -1, 3}, No: []int{math.MaxInt, math.MinInt}}, and(class(3), class(-1), class(3), non(class(math.MaxInt)), non(class(math.MinInt)))}, {Alt{Nums: []Num{{40, []api.Interval{closed(2, 1), {}}, false}, {-1, nil, true}, {40, apart(40, 0), true}}}, and(value(40, closed(2, 1), api.Interval{}), absent(-1), absent(40, apart(40, 0)...))},
		{Alt{Has: []api.Formula{no, class(1), no}, None: []api.Formula{class(99), star(97), of(-7, yes)}}, and(part(no), part(class(1)), part(no), non(part(class(99))), non(part(star(97))), non(part(of(-7, yes))))},
	} {
		if f := Formula(c.a); !same(f, c.want) || !same(f, refFormula(c.a)) {
			t.Errorf("case %d: %v", i, f)
		}
	}
}

// P9.3: cases that were worked out by hand, for a box of the class 2 with a wheel of the class 1 and a gear of the class
// 3, which has a wheel of the class 1, too.
func TestHolds(t *testing.T) {
	wheel := api.Thing{Classes: []int{1}, Values: []api.Value{val(0, 3, 1)}}
	gear := having([]int{3}, wheel)
	box := api.Thing{Classes: []int{2}, Values: []api.Value{val(1, 1, 2), val(4, -1<<40, 1)}, Parts: []api.Thing{wheel, gear}}
	w := worldOf(t, diamond, box)
	num := func(attr int, absent bool, in ...api.Interval) Alt { return Alt{Nums: []Num{{attr, in, absent}}} }
	has := func(l ...api.Formula) Alt { return Alt{Has: l} }
	none := func(l ...api.Formula) Alt { return Alt{None: l} }
	near := api.Interval{Lo: ratio(0, 1), Hi: ratio(1, 2)}
	for i, c := range []struct {
		a    Alt
		want bool
	}{
		{Alt{}, true}, {Alt{Yes: []int{2}}, true}, {Alt{Yes: []int{0}}, true}, {Alt{Yes: []int{0, 2}}, true}, {Alt{Yes: []int{1}}, false}, {Alt{Yes: []int{3}}, false}, {Alt{Yes: []int{0, 1}}, false}, {Alt{Yes: []int{1, 2}}, false}, {Alt{Yes: []int{2, 3}}, false},
		{Alt{No: []int{2}}, false}, {Alt{No: []int{0}}, false}, {Alt{No: []int{1}}, true}, {Alt{No: []int{3}}, true}, {Alt{No: []int{1, 3}}, true}, {Alt{No: []int{0, 1}}, false}, {Alt{No: []int{1, 2}}, false}, {Alt{No: []int{2, 3}}, false}, {Alt{Yes: []int{0}, No: []int{1, 3}}, true}, {Alt{Yes: []int{2}, No: []int{0}}, false}, {Alt{Yes: []int{3}, No: []int{1}}, false},
		{num(1, false, near), true}, {num(1, true, near), true}, {num(1, false, between(0, 1)), true}, {num(1, false, closed(1, 2)), false}, {num(1, true, closed(1, 2)), false}, {num(1, false), false}, {num(1, true), false}, {num(1, false, below(0), above(1)), false}, {num(1, false, below(-1), near, above(1)), true}, {num(1, false, api.Interval{Lo: ratio(0, 1), Hi: ratio(1, 2), HiOpen: true}), false}, {num(1, true, all), true},
		{num(0, false, all), false}, {num(0, true), true}, {num(0, true, closed(1, 2)), true}, {num(31, false, all), false}, {num(31, true), true}, {num(4, false, below(0)), true}, {num(4, false, api.Interval{Lo: ratio(-1<<30, 1), HiInf: true}), false}, {num(3, false), false},
		{Alt{Nums: []Num{{1, []api.Interval{near}, false}, {4, []api.Interval{all}, true}}}, true}, {Alt{Nums: []Num{{1, []api.Interval{near}, false}, {3, nil, true}}}, true}, {Alt{Nums: []Num{{1, nil, false}, {3, nil, true}}}, false}, {Alt{Nums: []Num{{1, []api.Interval{near}, false}, {3, []api.Interval{all}, false}}}, false},
		{has(yes), true}, {has(no), false}, {has(class(0)), true}, {has(class(1)), true}, {has(class(3)), true}, {has(class(1), class(3)), true}, {has(class(2), non(class(2))), true}, {has(non(class(0))), false}, {has(class(1), non(class(0))), false}, {has(value(0, all)), true}, {has(value(0, closed(4, 5))), false}, {has(value(1, all)), false}, {has(and(class(3), value(0, all))), false}, {has(value(0, closed(3, 3)), part(value(0, closed(3, 3)))), true}, {has(part(yes)), true}, {has(part(class(3))), false}, {has(part(part(yes))), false}, {has(and(class(2), non(part(yes)))), false}, {has(and(class(1), non(part(yes)))), true},
		{none(yes), false}, {none(no), true}, {none(class(0)), false}, {none(class(1)), false}, {none(class(3)), false}, {none(non(class(0))), true}, {none(class(1), non(class(0))), false}, {none(no, non(class(0))), true}, {none(class(3), non(class(0))), false}, {none(value(1, all)), true}, {none(part(class(3)), part(part(yes))), true}, {none(part(class(1))), false}, {none(and(class(2), non(part(yes)))), true},
		{Alt{Has: []api.Formula{class(3)}, None: []api.Formula{part(class(3))}}, true}, {Alt{Has: []api.Formula{class(3)}, None: []api.Formula{class(1)}}, false}, {Alt{Yes: []int{2}, No: []int{3}, Nums: []Num{{1, []api.Interval{near}, false}, {2, []api.Interval{near}, true}}, Has: []api.Formula{class(3), part(class(1))}, None: []api.Formula{part(class(3)), no}}, true},
	} {
		is, e := Holds(w.x, c.a, box)
		if e != api.OK || is != c.want || is != w.holds(c.a) {
			t.Errorf("case %d: %v, %d", i, is, e)
		}
		if is, e := formula.Holds(w.x, Formula(c.a), box); e != api.OK || is != c.want {
			t.Errorf("case %d: its formula: %v, %d", i, is, e)
		}
	}
}

// large returns a thing with some nodes.
func large(nodes int) api.Thing { return having(nil, make([]api.Thing, nodes-1)...) }

// P9.3 and P9.4: the errors, in their order. Those of Clear are the same, without those of things.
func TestHoldsErrors(t *testing.T) {
	x, _ := taxon.New(diamond)
	empty, _ := taxon.New(nil)
	whole, _ := taxon.New(make([][]int, 64))
	fine, bad, huge, strange := api.Thing{}, having([]int{2, 1}), large(97), having(nil, having([]int{4}))
	num := func(attr int, in ...api.Interval) Alt { return Alt{Nums: []Num{{attr, in, true}}} }
	nums := func(attrs ...int) Alt {
		var a Alt
		for _, n := range attrs {
			a.Nums = append(a.Nums, Num{Attr: n, Absent: true})
		}
		return a
	}
	has := func(l ...api.Formula) Alt { return Alt{Has: l} }
	none := func(l ...api.Formula) Alt { return Alt{None: l} }
	for i, c := range []struct {
		x     *taxon.Taxon
		a     Alt
		t     api.Thing
		e, of api.Errno // of Holds, and of Clear
	}{
		{nil, Alt{}, fine, api.ErrArg, api.ErrArg}, {nil, has(star(97)), huge, api.ErrArg, api.ErrArg}, {nil, Alt{Yes: []int{9}}, bad, api.ErrArg, api.ErrArg},
		// Not formed well.
		{x, Alt{Yes: []int{1, 0}}, fine, api.ErrArg, api.ErrArg}, {x, Alt{Yes: []int{1, 1}}, fine, api.ErrArg, api.ErrArg}, {x, Alt{Yes: []int{-1}}, fine, api.ErrArg, api.ErrArg}, {x, Alt{Yes: []int{math.MinInt, 0}}, fine, api.ErrArg, api.ErrArg}, {x, Alt{Yes: []int{0, 2, 1}}, huge, api.ErrArg, api.ErrArg}, {x, Alt{Yes: []int{9, 8}}, fine, api.ErrArg, api.ErrArg},
		{x, Alt{No: []int{1, 0}}, fine, api.ErrArg, api.ErrArg}, {x, Alt{No: []int{1, 1}}, fine, api.ErrArg, api.ErrArg}, {x, Alt{No: []int{-1, 2}}, fine, api.ErrArg, api.ErrArg}, {x, Alt{No: []int{0, 1, 1}}, huge, api.ErrArg, api.ErrArg}, {x, Alt{Yes: []int{9}, No: []int{-1}}, fine, api.ErrArg, api.ErrArg},
		{x, num(-1), fine, api.ErrArg, api.ErrArg}, {x, num(32), fine, api.ErrArg, api.ErrArg}, {x, num(math.MaxInt), fine, api.ErrArg, api.ErrArg}, {x, num(math.MinInt), fine, api.ErrArg, api.ErrArg}, {x, nums(1, 0), fine, api.ErrArg, api.ErrArg}, {x, nums(1, 1), fine, api.ErrArg, api.ErrArg}, {x, nums(0, 1, 3, 2), fine, api.ErrArg, api.ErrArg}, {x, nums(30, 31, 32), fine, api.ErrArg, api.ErrArg},
		{x, num(0, closed(2, 1)), fine, api.ErrArg, api.ErrArg}, {x, num(0, api.Interval{}), fine, api.ErrArg, api.ErrArg}, {x, num(0, closed(1, 2), closed(2, 3)), fine, api.ErrArg, api.ErrArg}, {x, num(0, closed(3, 4), closed(1, 2)), fine, api.ErrArg, api.ErrArg}, {x, num(0, apart(33, 0)...), fine, api.ErrArg, api.ErrArg}, {x, num(0, apart(33, 0)...), huge, api.ErrArg, api.ErrArg}, {x, Alt{Nums: []Num{{Attr: 0}, {Attr: 1, In: []api.Interval{all, all}}}}, fine, api.ErrArg, api.ErrArg},
		{x, has(class(2), class(1)), fine, api.ErrArg, api.ErrArg}, {x, has(yes, yes), fine, api.ErrArg, api.ErrArg}, {x, has(no, yes), fine, api.ErrArg, api.ErrArg}, {x, has(yes, class(1), class(1)), fine, api.ErrArg, api.ErrArg}, {x, has(star(97), class(1)), fine, api.ErrArg, api.ErrArg}, {x, has(star(98), star(97)), huge, api.ErrArg, api.ErrArg},
		{x, none(class(2), class(1)), fine, api.ErrArg, api.ErrArg}, {x, none(part(no), part(no)), fine, api.ErrArg, api.ErrArg}, {x, none(yes, part(no), class(3)), fine, api.ErrArg, api.ErrArg}, {x, Alt{Has: []api.Formula{star(97)}, None: []api.Formula{no, no}}, huge, api.ErrArg, api.ErrArg}, {x, Alt{Yes: []int{9}, None: []api.Formula{class(64), class(64)}}, fine, api.ErrArg, api.ErrArg},
		// Formulas that are not valid, Has before None.
		{x, has(class(64)), fine, api.ErrArg, api.ErrArg}, {x, has(star(97)), fine, api.ErrLimit, api.ErrLimit}, {x, has(within(8, api.OpNot, yes)), fine, api.ErrLimit, api.ErrLimit}, {x, none(class(-1)), fine, api.ErrArg, api.ErrArg}, {x, none(star(97)), fine, api.ErrLimit, api.ErrLimit}, {x, none(yes, of(7)), fine, api.ErrArg, api.ErrArg}, {x, has(class(64), star(97)), fine, api.ErrArg, api.ErrArg}, {x, has(star(97), of(7)), fine, api.ErrLimit, api.ErrLimit}, {x, none(class(64), star(97)), fine, api.ErrArg, api.ErrArg}, {x, none(star(97), of(7)), fine, api.ErrLimit, api.ErrLimit}, {x, has(class(9), star(97)), bad, api.ErrLimit, api.ErrLimit},
		{x, Alt{Has: []api.Formula{class(64)}, None: []api.Formula{star(97)}}, fine, api.ErrArg, api.ErrArg}, {x, Alt{Has: []api.Formula{star(97)}, None: []api.Formula{class(64)}}, fine, api.ErrLimit, api.ErrLimit}, {x, Alt{Yes: []int{9}, Has: []api.Formula{class(1)}, None: []api.Formula{star(97)}}, bad, api.ErrLimit, api.ErrLimit}, {x, Alt{Yes: []int{9}, None: []api.Formula{class(64)}}, huge, api.ErrArg, api.ErrArg}, {x, has(value(0, closed(2, 1))), huge, api.ErrArg, api.ErrArg}, {x, none(value(0, apart(33, 0)...)), huge, api.ErrArg, api.ErrArg},
		// Things that are not valid.
		{x, Alt{}, bad, api.ErrArg, api.OK}, {x, Alt{}, huge, api.ErrLimit, api.OK}, {x, Alt{Yes: []int{9}}, bad, api.ErrArg, api.ErrNone}, {x, Alt{No: []int{9}}, huge, api.ErrLimit, api.ErrNone}, {x, has(class(9)), huge, api.ErrLimit, api.ErrNone}, {x, none(part(class(9))), having(nil, having([]int{9}), bad), api.ErrArg, api.ErrNone}, {x, Alt{}, api.Thing{Values: []api.Value{val(0, 1, 65537)}}, api.ErrArg, api.OK}, {x, Alt{No: []int{1}}, having([]int{64}), api.ErrArg, api.OK}, {x, Alt{}, having(nil, having([]int{-1})), api.ErrArg, api.OK},
		// Classes that there are not: a class of Yes or No can be any number.
		{x, Alt{Yes: []int{4}}, fine, api.ErrNone, api.ErrNone}, {x, Alt{Yes: []int{0, 1, 63}}, fine, api.ErrNone, api.ErrNone}, {x, Alt{Yes: []int{64}}, fine, api.ErrNone, api.ErrNone}, {x, Alt{Yes: []int{1, math.MaxInt}}, fine, api.ErrNone, api.ErrNone}, {x, Alt{No: []int{4}}, fine, api.ErrNone, api.ErrNone}, {x, Alt{No: []int{0, 64}}, fine, api.ErrNone, api.ErrNone}, {x, Alt{No: []int{math.MaxInt}}, fine, api.ErrNone, api.ErrNone},
		{x, has(class(4)), fine, api.ErrNone, api.ErrNone}, {x, has(yes, part(class(63))), fine, api.ErrNone, api.ErrNone}, {x, none(class(4)), fine, api.ErrNone, api.ErrNone}, {x, none(yes, and(yes, non(class(5)))), fine, api.ErrNone, api.ErrNone}, {x, has(within(7, api.OpPart, class(4))), fine, api.ErrNone, api.ErrNone}, {x, Alt{Has: []api.Formula{class(0)}, None: []api.Formula{or(yes, class(4))}}, fine, api.ErrNone, api.ErrNone},
		{x, Alt{}, having([]int{4}), api.ErrNone, api.OK}, {x, Alt{}, having([]int{0, 63}), api.ErrNone, api.OK}, {x, Alt{No: []int{0}}, strange, api.ErrNone, api.OK}, {x, Alt{}, having(nil, fine, having([]int{1}, strange)), api.ErrNone, api.OK}, {empty, Alt{Yes: []int{0}}, fine, api.ErrNone, api.ErrNone}, {empty, Alt{No: []int{0}}, fine, api.ErrNone, api.ErrNone}, {empty, none(class(0)), fine, api.ErrNone, api.ErrNone}, {empty, Alt{}, having([]int{0}), api.ErrNone, api.OK},
		{x, nums(0, 1, 30, 31), fine, api.OK, api.OK}, {x, none(class(3), part(class(3))), having([]int{3}), api.OK, api.OK}, {x, num(0, apart(32, 0)...), large(96), api.OK, api.OK}, {empty, num(3), fine, api.OK, api.OK}, {whole, Alt{Yes: []int{63}, No: []int{62}}, having([]int{63}), api.OK, api.OK}, {whole, Alt{No: []int{64}}, fine, api.ErrNone, api.ErrNone}, {x, none(star(96), within(7, api.OpNot, yes)), fine, api.OK, api.OK},
	} {
		if is, e := Holds(c.x, c.a, c.t); is != (c.e == api.OK) || e != c.e {
			t.Errorf("case %d: Holds: %v, %d", i, is, e)
		}
		if is, e := Clear(c.x, c.a); is || e != c.of {
			t.Errorf("case %d: Clear: %v, %d", i, is, e)
		}
	}
}

// P9.4: cases that were worked out by hand.
func TestClear(t *testing.T) {
	w := worldOf(t, diamond, api.Thing{})
	for i, c := range []struct {
		a    Alt
		want bool
	}{
		{Alt{}, false}, {Alt{Yes: []int{0, 1, 2, 3}}, false}, {Alt{No: []int{0, 1, 2, 3}}, false}, {Alt{Yes: []int{1}, No: []int{1}}, true}, {Alt{Yes: []int{1}, No: []int{0}}, true}, {Alt{Yes: []int{3}, No: []int{0}}, true}, {Alt{Yes: []int{3}, No: []int{2}}, true}, {Alt{Yes: []int{0}, No: []int{1}}, false}, {Alt{Yes: []int{0}, No: []int{3}}, false}, {Alt{Yes: []int{1}, No: []int{2}}, false}, {Alt{Yes: []int{1}, No: []int{3}}, false}, {Alt{Yes: []int{1, 2}, No: []int{3}}, false}, {Alt{Yes: []int{0, 1}, No: []int{2, 3}}, false}, {Alt{Yes: []int{0, 3}, No: []int{1}}, true}, {Alt{Yes: []int{0, 1}, No: []int{1, 3}}, true}, {Alt{Yes: []int{1, 2}, No: []int{0, 3}}, true},
		{Alt{Nums: []Num{{Attr: 3}}}, true}, {Alt{Nums: []Num{{Attr: 3, Absent: true}}}, false}, {Alt{Nums: []Num{{3, []api.Interval{closed(1, 1)}, false}}}, false}, {Alt{Nums: []Num{{3, []api.Interval{all}, true}}}, false}, {Alt{Nums: []Num{{Attr: 0, Absent: true}, {Attr: 31}}}, true}, {Alt{Nums: []Num{{Attr: 0}, {1, []api.Interval{all}, false}}}, true}, {Alt{Nums: []Num{{0, []api.Interval{all}, false}, {Attr: 1, Absent: true}}}, false}, {Alt{Yes: []int{1}, No: []int{3}, Nums: []Num{{Attr: 4}}}, true}, {Alt{Yes: []int{1}, No: []int{0}, Nums: []Num{{Attr: 4, Absent: true}}}, true},
		// Parts do not count.
		{Alt{Has: []api.Formula{no}}, false}, {Alt{Has: []api.Formula{class(1)}, None: []api.Formula{class(1)}}, false}, {Alt{Has: []api.Formula{class(1)}, None: []api.Formula{yes, class(0)}}, false}, {Alt{Has: []api.Formula{value(0)}}, false}, {Alt{Has: []api.Formula{and(class(1), non(class(1)))}}, false}, {Alt{Yes: []int{1}, None: []api.Formula{class(0)}}, false},
	} {
		if is, e := Clear(w.x, c.a); e != api.OK || is != c.want || is != w.clear(c.a) {
			t.Errorf("case %d: %v, %d", i, is, e)
		}
	}
}

// leaves are formulas without kids.
func leaves() []api.Formula {
	return []api.Formula{yes, no, and(), class(0), class(1), value(0), value(0, closed(1, 2)), value(0, closed(2, 3)), value(1, all)}
}

// over returns all formulas with an operation and one or two kids of a list.
func over(l []api.Formula) []api.Formula {
	var up []api.Formula
	for i, f := range l {
		up = append(up, non(f), part(f), and(f), or(f))
		for _, g := range l[:i+1] {
			up = append(up, and(f, g), or(f, g), and(g, f), or(g, f))
		}
	}
	return up
}

// middle returns all formulas of up to two levels over the leaves, and some of three and four.
func middle() []api.Formula {
	low := append(leaves(), over(leaves())...)
	var few []api.Formula
	for i := 0; i < len(low); i += 7 {
		few = append(few, low[i])
	}
	high := over(few)
	all := append(low, high...)
	for i := 0; i < len(high); i += 3 {
		all = append(all, non(high[i]), and(or(class(2), part(high[i])), high[i]))
	}
	return all
}

// P9.1, P9.2, P9.5 to P9.8: formulas of few levels, as the reference has them.
func TestEvery(t *testing.T) {
	l := worlds(t)
	held := 0
	all := middle()
	for _, f := range all {
		alts, least := atLimits(t, l[0].x, f, near)
		if least == tooMany {
			t.Fatalf("%v has too many alternatives", f)
		}
		held += meaning(t, f, alts, l)
	}
	if held < 5*len(all) || held > 14*len(all) {
		t.Errorf("%d formulas held for %d things", len(all), held)
	}
}

// P9.1, P9.2, P9.5 to P9.8: random formulas.
func TestRandom(t *testing.T) {
	rnd := rand.New(rand.NewSource(91))
	some, tooLarge, alternatives, held := 0, 0, 0, 0
	for i := range 1500 {
		f := someFormula(rnd, 1+i%96, 1+rnd.Intn(8))
		l := someWorlds(t, rnd, 6)
		alts, least := atLimits(t, l[0].x, f, near)
		if least == tooMany {
			tooLarge++
			continue
		}
		some++
		alternatives += len(alts)
		held += meaning(t, f, alts, l)
	}
	if some < 900 || tooLarge < 50 || alternatives < 3000 || held < 1000 || held > 7000 {
		t.Errorf("%d formulas with %d alternatives held for %d things, %d had too many", some, alternatives, held, tooLarge)
	}
}

// P9.2 to P9.6: random alternatives in random worlds.
func TestRandomAlts(t *testing.T) {
	rnd := rand.New(rand.NewSource(92))
	held, clear := 0, 0
	for range 3000 {
		a := someAlt(rnd)
		l := someWorlds(t, rnd, 8)
		inWorlds(t, a, l)
		for _, w := range l {
			held += number(w.holds(a))
			clear += number(w.clear(a))
		}
	}
	if held < 1500 || held > 20000 || clear < 1500 || clear > 20000 {
		t.Errorf("%d held, %d contradict themselves", held, clear)
	}
}

// refFormed reports whether an alternative is formed well.
func refFormed(a Alt) bool {
	classes := func(l []int) bool {
		for i, c := range l {
			if c < 0 || slices.Contains(l[:i], c) {
				return false
			}
		}
		return slices.IsSorted(l)
	}
	formulas := func(l []api.Formula) bool {
		for i := range l {
			if i > 0 && slices.Compare(key(l[i-1]), key(l[i])) != -1 {
				return false
			}
		}
		return true
	}
	last := -1
	for _, n := range a.Nums {
		if n.Attr <= last || n.Attr > 31 || span.Valid(n.In) != api.OK {
			return false
		}
		last = n.Attr
	}
	return classes(a.Yes) && classes(a.No) && formulas(a.Has) && formulas(a.None)
}

// wrong returns the error of Holds, or of Clear if there is no thing.
func (w world) wrong(a Alt, x *api.Thing) api.Errno {
	if !refFormed(a) {
		return api.ErrArg
	}
	classes := slices.Concat(a.Yes, a.No)
	var ofFormula func(f api.Formula)
	ofFormula = func(f api.Formula) {
		if f.Op == api.OpClass {
			classes = append(classes, f.N)
		}
		for _, k := range f.Kids {
			ofFormula(k)
		}
	}
	for _, f := range slices.Concat(a.Has, a.None) {
		if e := formula.Valid(f); e != api.OK {
			return e
		}
		ofFormula(f)
	}
	var ofThing func(x api.Thing)
	ofThing = func(x api.Thing) {
		classes = append(classes, x.Classes...)
		for _, p := range x.Parts {
			ofThing(p)
		}
	}
	if x != nil {
		if e := thing.Valid(*x); e != api.OK {
			return e
		}
		ofThing(*x)
	}
	if len(classes) > 0 && slices.Max(classes) >= len(w.parents) {
		return api.ErrNone
	}
	return api.OK
}

// someNumber returns one that is perhaps no class and no attribute.
func someNumber(rnd *rand.Rand) int {
	return []int{-1, 0, 1, 2, 3, 4, 31, 32, 63, 64, math.MaxInt, math.MinInt}[rnd.Intn(12)]
}

// spoiledList puts another element somewhere into a list, exchanges two of them, or doubles one.
func spoiledList[E any](rnd *rand.Rand, l []E, other E) []E {
	l = slices.Clone(l)
	if i := rnd.Intn(len(l) + 1); rnd.Intn(3) == 0 || len(l) < 2 {
		return slices.Insert(l, i, other)
	}
	i, j := rnd.Intn(len(l)), rnd.Intn(len(l))
	if rnd.Intn(2) == 0 {
		return slices.Insert(l, i, l[i])
	}
	l[i], l[j] = l[j], l[i]
	return l
}

// spoiled changes an alternative so that it is perhaps no longer formed well.
func spoiled(rnd *rand.Rand, a Alt) Alt {
	f := []api.Formula{yes, class(3), class(4), part(class(5)), class(64), star(97), within(8, api.OpNot, yes), no, of(7), value(32), value(0, closed(2, 1)), within(7, api.OpPart, no)}[rnd.Intn(12)]
	switch n := someNumber(rnd); rnd.Intn(6) {
	case 0:
		a.Yes = spoiledList(rnd, a.Yes, n)
	case 1:
		a.No = spoiledList(rnd, a.No, n)
	case 2:
		a.Nums = spoiledList(rnd, a.Nums, Num{Attr: n, Absent: true})
	case 3:
		a.Nums = spoiledList(rnd, a.Nums, Num{Attr: 2, In: [][]api.Interval{{all}, {all, all}, {closed(2, 1)}, apart(32, 0), apart(33, 0), {{}}}[rnd.Intn(6)]})
	case 4:
		a.Has = spoiledList(rnd, a.Has, f)
	case 5:
		a.None = spoiledList(rnd, a.None, f)
	}
	return a
}

// P9.3 and P9.4: alternatives and things that were changed so that most are no longer valid.
func TestSpoiled(t *testing.T) {
	rnd := rand.New(rand.NewSource(93))
	count := map[api.Errno]int{}
	for range 6000 {
		a := someAlt(rnd)
		for range rnd.Intn(4) {
			a = spoiled(rnd, a)
		}
		w := someWorlds(t, rnd, 1)[0]
		x := w.thing
		switch rnd.Intn(12) {
		case 0:
			x.Classes = append(slices.Clone(x.Classes), someNumber(rnd))
		case 1:
			x.Parts = append(slices.Clone(x.Parts), having(nil, having([]int{rnd.Intn(66)})))
		case 2:
			x.Values = append(slices.Clone(x.Values), val(rnd.Intn(4), 1, 1+rnd.Intn(2)*65536))
		case 3:
			x = having([]int{rnd.Intn(9)}, x, large(90+rnd.Intn(9)))
		}
		want, e := w.wrong(a, &x), api.OK
		is, e := Holds(w.x, a, x)
		if e != want || e != api.OK && is || e == api.OK && is != (world{w.x, w.parents, x}).holds(a) {
			t.Fatalf("Holds(%v, %v): %v, %d instead of %d", a, x, is, e, want)
		}
		count[e]++
		want = w.wrong(a, nil)
		is, e = Clear(w.x, a)
		if e != want || e != api.OK && is || e == api.OK && is != w.clear(a) {
			t.Fatalf("Clear(%v): %v, %d instead of %d", a, is, e, want)
		}
		if f := Formula(a); !same(f, refFormula(a)) {
			t.Fatalf("Formula(%v): %v", a, f)
		}
	}
	for _, e := range []api.Errno{api.OK, api.ErrArg, api.ErrLimit, api.ErrNone} {
		if count[e] < 200 {
			t.Errorf("%d with the error %d", count[e], e)
		}
	}
}

// P9.7: the alternatives of OpOr, OpAnd and OpNot follow from those of the kids.
func TestParts(t *testing.T) {
	rnd := rand.New(rand.NewSource(94))
	x, _ := taxon.New(diamond)
	found := 0
	for range 3000 {
		f, g, h := someFormula(rnd, 1+rnd.Intn(16), 4), someFormula(rnd, 1+rnd.Intn(16), 4), someFormula(rnd, 1+rnd.Intn(8), 4)
		a, e := Alts(x, f, 64)
		b, c := Alts(x, g, 64)
		d, i := Alts(x, h, 64)
		if e != api.OK || c != api.OK || i != api.OK {
			continue
		}
		chained, j := Alts(x, or(f, g, h), 64)
		if all := slices.Concat(a, b, d); j == api.OK && !sameAlts(chained, all) || (j != api.OK) != (len(all) > 64) {
			t.Fatalf("Alts(%v): %v, %d", or(f, g, h), chained, j)
		}
		both, j := Alts(x, and(f, g), 64)
		if j == api.OK && len(both) != len(a)*len(b) || len(a)*len(b) > 64 && j != api.ErrLimit {
			t.Fatalf("Alts(%v): %d, %d", and(f, g), len(both), j)
		}
		again, j := Alts(x, non(non(f)), 64)
		if j != api.OK || !sameAlts(again, a) {
			t.Fatalf("Alts(%v): %v, %d", non(non(f)), again, j)
		}
		found += number(len(both) > 3 && len(chained) > 3)
	}
	if found < 300 {
		t.Errorf("%d formulas with some alternatives", found)
	}
}

// P9.6: no thing of a small world has what contradicts itself, whatever the taxonomy.
func TestContradiction(t *testing.T) {
	rnd := rand.New(rand.NewSource(95))
	found := 0
	for range 4000 {
		a := someAlt(rnd)
		a.Has, a.None = nil, nil
		l := someWorlds(t, rnd, 1)
		if is, e := Clear(l[0].x, a); e != api.OK || !is {
			continue
		}
		found++
		for classes := range 16 {
			x := someThing(rnd, 2)
			x.Classes = nil
			for c := range 4 {
				if classes>>c&1 == 1 {
					x.Classes = append(x.Classes, c)
				}
			}
			if is, e := Holds(l[0].x, a, x); is || e != api.OK {
				t.Fatalf("Holds(%v, %v): %v, %d", a, x, is, e)
			}
		}
	}
	if found < 500 {
		t.Errorf("%d contradict themselves", found)
	}
}

// ledger keeps lists that were overwritten, also behind their ends, each with a number of its own.
type ledger struct {
	last int
	kept []func() bool
}

func claim[E any](k *ledger, l []E, made func(n int) E, same func(a, b E) bool) {
	k.last++
	n, whole := k.last, l[:cap(l)]
	for i := range whole {
		whole[i] = made(n)
	}
	k.kept = append(k.kept, func() bool {
		return !slices.ContainsFunc(whole, func(e E) bool { return !same(e, made(n)) })
	})
}

func equal[E comparable](a, b E) bool { return a == b }

func (k *ledger) formula(f api.Formula) {
	for _, g := range f.Kids {
		k.formula(g)
	}
	claim(k, f.In, func(n int) api.Interval { return closed(n, n) }, equal)
	claim(k, f.Kids, class, same)
}

func (k *ledger) alt(a Alt) {
	for _, f := range slices.Concat(a.Has, a.None) {
		k.formula(f)
	}
	for _, n := range a.Nums {
		claim(k, n.In, func(n int) api.Interval { return closed(n, n) }, equal)
	}
	itself := func(n int) int { return n }
	claim(k, a.Yes, itself, equal)
	claim(k, a.No, itself, equal)
	claim(k, a.Nums, func(n int) Num { return Num{Attr: n} }, sameNum)
	claim(k, a.Has, class, same)
	claim(k, a.None, class, same)
}

// shared returns a formula in which the kids and the sets of some nodes are the same memory, with free memory behind.
func shared(rnd *rand.Rand) api.Formula {
	set := append(make([]api.Interval, 0, 9), closed(1, 2), closed(3, 4))
	f := or(value(0, set...), non(and(value(0, set...), part(value(1, set...)))), class(rnd.Intn(3)))
	kids := append(make([]api.Formula, 0, 9), f, value(1, set...))
	g := someFormula(rnd, 1+rnd.Intn(5), 3)
	return and(of(api.OpOr, kids...), or(part(f), non(part(f)), part(of(api.OpAnd, kids...))), or(g, part(g)), non(part(g)), of(api.OpPart, kids[:1]...))
}

// copiedFormula returns a copy that shares no memory.
func copiedFormula(f api.Formula) api.Formula {
	c := api.Formula{Op: f.Op, N: f.N, In: append([]api.Interval{}, f.In...)}
	for _, k := range f.Kids {
		c.Kids = append(c.Kids, copiedFormula(k))
	}
	return c
}

// R2 and R3: arguments stay what they were, results share no memory with them, nor do the lists of one result.
func TestMemory(t *testing.T) {
	rnd := rand.New(rand.NewSource(96))
	marked := 0
	for i := range 400 {
		f := someFormula(rnd, 1+rnd.Intn(40), 8)
		if i%2 == 0 {
			f = shared(rnd)
		}
		w := someWorlds(t, rnd, 1)[0]
		before := copiedFormula(f)
		first, e := Alts(w.x, f, 64)
		second, _ := Alts(w.x, f, 64)
		if e != api.OK {
			continue
		}
		var k ledger
		for _, a := range first {
			g := Formula(a)
			want := copiedFormula(g)
			Holds(w.x, a, w.thing)
			Clear(w.x, a)
			k.alt(a)
			if !same(g, want) {
				t.Fatalf("the formula of an alternative of %v changed with it", f)
			}
		}
		for _, a := range second {
			g := Formula(a)
			want := refFormula(a)
			k.formula(g)
			if !same(refFormula(a), want) {
				t.Fatalf("an alternative of %v changed with its formula", f)
			}
			k.alt(a)
		}
		if !same(f, before) {
			t.Fatalf("%v changed", before)
		}
		for _, ok := range k.kept {
			if !ok() {
				t.Fatalf("results for %v share memory", before)
			}
		}
		marked += len(k.kept)
	}
	if marked < 5000 {
		t.Errorf("%d lists", marked)
	}
}

// R1 and R3: nil and empty lists are the same, memory behind a list does not count, and neither do earlier calls.
func TestEmpty(t *testing.T) {
	x, _ := taxon.New(diamond)
	behind := func(op int) api.Formula {
		return api.Formula{Op: op, In: apart(3, 0)[:0], Kids: []api.Formula{of(-1)}[:0]}
	}
	long := Alt{Yes: []int{-1}[:0], No: []int{9, 8}[:0], Nums: []Num{{Attr: 77}}[:0], Has: []api.Formula{of(-1)}[:0], None: []api.Formula{star(97)}[:0]}
	thin := Alt{Yes: []int{}, No: []int{}, Nums: []Num{}, Has: []api.Formula{}, None: []api.Formula{}}
	for range 2 {
		for _, a := range []Alt{{}, long, thin} {
			is, e := Holds(x, a, api.Thing{Classes: []int{}, Values: []api.Value{}, Parts: []api.Thing{}})
			clear, g := Clear(x, a)
			if !is || clear || e != api.OK || g != api.OK || !same(Formula(a), and()) {
				t.Errorf("%v: %v, %d, %v, %d", a, is, e, clear, g)
			}
		}
		for _, in := range [][]api.Interval{nil, {}, apart(3, 0)[:0]} {
			a := Alt{Nums: []Num{{Attr: 3, In: in, Absent: true}}}
			if is, e := Holds(x, a, api.Thing{}); !is || e != api.OK || !same(Formula(a), and(or(value(3), non(value(3, all))))) {
				t.Errorf("an empty set: %v, %d", is, e)
			}
			if l, e := Alts(x, and(value(3, in...), class(0)), 1); e != api.OK || !sameAlts(l, []Alt{{Yes: []int{0}, Nums: []Num{{Attr: 3}}}}) {
				t.Errorf("an empty set: %v, %d", l, e)
			}
		}
		for _, op := range []int{api.OpTrue, api.OpClass, api.OpValue, api.OpAnd, api.OpOr} {
			for _, f := range []api.Formula{of(op), {Op: op, In: []api.Interval{}, Kids: []api.Formula{}}, behind(op)} {
				for _, up := range []api.Formula{f, non(f), part(f), and(f, f), or(f, yes), non(and(f, class(1)))} {
					atLimits(t, x, up, near)
				}
			}
		}
		both := Alt{Has: []api.Formula{behind(api.OpOr)}, None: []api.Formula{of(api.OpOr)}}
		if is, e := Holds(x, both, api.Thing{}); is || e != api.OK {
			t.Errorf("%v, %d", is, e)
		}
		if is, e := Holds(x, Alt{Has: []api.Formula{behind(api.OpOr), of(api.OpOr)}}, api.Thing{}); is || e != api.ErrArg {
			t.Errorf("the same formula twice: %v, %d", is, e)
		}
	}
}

// P1: large formulas, alternatives and things, to an end and without a panic.
func TestExtremes(t *testing.T) {
	x, _ := taxon.New(diamond)
	deepest, wide := within(1<<16, api.OpNot, yes), star(1<<16)
	many := class(1)
	for range 100 {
		many = or(many, many)
	}
	// A formula that is a kid of itself.
	loop := or(yes)
	loop.Kids[0] = loop
	for i, f := range []api.Formula{deepest, wide, many, loop, of(api.OpPart, loop), of(-1, many.Kids...)} {
		if l, e := Alts(x, f, 64); e != api.ErrLimit || len(l) > 0 {
			t.Errorf("case %d: Alts: %d, %d", i, len(l), e)
		}
		for _, a := range []Alt{{Has: []api.Formula{f}}, {None: []api.Formula{f}}, {Yes: []int{9}, Has: []api.Formula{yes}, None: []api.Formula{f}}} {
			is, e := Holds(x, a, having([]int{-1}))
			clear, g := Clear(x, a)
			if is || clear || e != api.ErrLimit || g != api.ErrLimit {
				t.Errorf("case %d: %v, %d, %v, %d", i, is, e, clear, g)
			}
		}
	}
	for i, f := range []api.Formula{deepest, wide} {
		if g := Formula(Alt{Has: []api.Formula{f}, None: []api.Formula{yes, f}}); len(g.Kids) != 3 || size(g) != 2*size(f)+7 || deep(g) != deep(f)+3 {
			t.Errorf("case %d: %d nodes of a formula", i, size(g))
		}
		if is, e := Holds(x, Alt{Has: []api.Formula{f, f}}, api.Thing{}); is || e != api.ErrArg {
			t.Errorf("case %d: twice: %v, %d", i, is, e)
		}
	}
	var numbers []int
	var nums []Num
	var formulas []api.Formula
	for c := range 1 << 14 {
		numbers, nums, formulas = append(numbers, c), append(nums, Num{Attr: c}), append(formulas, api.Formula{Op: api.OpClass, N: c})
	}
	for i, c := range []struct {
		a Alt
		e api.Errno
	}{{Alt{Yes: numbers}, api.ErrNone}, {Alt{No: numbers}, api.ErrNone}, {Alt{Nums: nums}, api.ErrArg}, {Alt{Has: formulas}, api.ErrArg}, {Alt{None: formulas}, api.ErrArg}, {Alt{Nums: []Num{{In: apart(1<<16, 0)}}}, api.ErrArg}, {Alt{Yes: append(slices.Clone(numbers), 0)}, api.ErrArg}} {
		is, e := Holds(x, c.a, api.Thing{})
		clear, g := Clear(x, c.a)
		if is || clear || e != c.e || g != c.e {
			t.Errorf("case %d: %v, %d, %v, %d", i, is, e, clear, g)
		}
		f := Formula(c.a)
		if !same(f, refFormula(c.a)) {
			t.Errorf("case %d: a formula of %d nodes", i, size(f))
		}
	}
}

// P9.1 and P9.3: the largest formulas and things, with the deepest way through both.
func TestLargest(t *testing.T) {
	parents := make([][]int, 64)
	for c := 1; c < 64; c++ {
		parents[c] = []int{c - 1}
	}
	x := having([]int{63})
	for i := range 7 {
		x = having([]int{i}, append(slices.Repeat([]api.Thing{having([]int{62 - i})}, 11), x)...)
	}
	w := worldOf(t, parents, x)
	var kids, classes []api.Formula
	for c := range 64 {
		classes = append(classes, class(c))
		if c < 44 {
			kids = append(kids, non(class(63-c)))
		}
	}
	down := within(5, api.OpPart, class(61))
	full := and(slices.Concat([]api.Formula{value(0, apart(32, 0)...), part(down)}, kids[:32], classes[42:])...)
	for i, c := range []struct {
		f           api.Formula
		count, size int
		want        bool
	}{
		{and(kids...), 1, 89, true}, {or(kids...), 44, 89, true}, {and(classes...), 1, 65, false}, {or(classes...), 64, 65, true}, {non(or(classes[7:]...)), 1, 59, true}, {full, 1, 95, false}, {and(append(classes[:40:40], non(or(kids[:26]...)))...), 1, 95, false},
		{and(class(6), non(class(7)), part(down), or(within(5, api.OpPart, class(60)), class(60))), 2, 19, true}, {and(or(class(6), class(7)), non(part(class(57))), part(down)), 2, 14, true}, {or(and(or(class(6), class(7)), within(5, api.OpPart, class(60))), no), 2, 12, true},
	} {
		alts, least := atLimits(t, w.x, c.f, every)
		if least != len(alts) || len(alts) != c.count || size(c.f) != c.size {
			t.Errorf("case %d: %d alternatives from %d on, %d nodes", i, len(alts), least, size(c.f))
		}
		meaning(t, c.f, alts, []world{w})
		if is := slices.ContainsFunc(alts, w.holds); is != c.want {
			t.Errorf("case %d: %v", i, is)
		}
	}
	a := Alt{Yes: []int{0, 1, 2, 3, 4, 5, 6}, No: []int{7, 63}, Has: []api.Formula{within(6, api.OpPart, class(63))}, None: []api.Formula{within(7, api.OpPart, yes)}}
	if is, e := Holds(w.x, a, x); !is || e != api.OK {
		t.Errorf("%v, %d", is, e)
	}
}

// The examples of the chapter.
func TestChapterExamples(t *testing.T) {
	x, _ := taxon.New(make([][]int, 2))
	outside := Num{2, []api.Interval{below(1), above(2)}, true}
	for i, c := range []struct {
		f    api.Formula
		want []Alt
	}{
		{and(or(class(0), class(1)), non(value(2, closed(1, 2)))), []Alt{{Yes: []int{0}, Nums: []Num{outside}}, {Yes: []int{1}, Nums: []Num{outside}}}},
		{non(part(class(0))), []Alt{{None: []api.Formula{class(0)}}}},
	} {
		if l, e := Alts(x, c.f, len(c.want)); e != api.OK || !sameAlts(l, c.want) {
			t.Errorf("case %d: %v, %d", i, l, e)
		}
	}
}

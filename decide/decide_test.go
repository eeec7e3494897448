package decide_test

import (
	"math/rand"
	"slices"
	"testing"
	"time"

	"priorart/api"
	"priorart/decide"
	"priorart/formula"
	"priorart/span"
	"priorart/taxon"
	"priorart/thing"
)

// asTold compares Sat with what the chapter's words say, and returns it.
func (w world) asTold(t *testing.T, f api.Formula) outcome {
	t.Helper()
	want := w.sat(f)
	got, some, e := decide.Sat(w.x, f)
	if !sameThing(got, want.thing) || some != want.some || e != want.e {
		t.Fatalf("Sat(%v) under %v: %v, %v, %d instead of %v", f, w.parents, got, some, e, want)
	}
	return want
}

// rightly checks that the formula holds for what Sat finds, and whether it finds something by the other reference.
func (w world) rightly(t *testing.T, f api.Formula) outcome {
	t.Helper()
	o := w.asTold(t, f)
	if o.some && (!w.satisfies(o.thing, f) || thing.Valid(o.thing) != api.OK) {
		t.Fatalf("Sat(%v) under %v: %v", f, w.parents, o.thing)
	}
	if is, e := formula.Holds(w.x, f, o.thing); o.some && (!is || e != api.OK) {
		t.Fatalf("Sat(%v) under %v: %v, for which it does not hold: %d", f, w.parents, o.thing, e)
	}
	if is := w.satisfiable(f); o.e == api.OK && is != o.some {
		t.Fatalf("Sat(%v) under %v: %v, but it is satisfiable: %v", f, w.parents, o.some, is)
	}
	return o
}

// P10.1, P10.2 and P10.5: cases that were worked out by hand; what is found, or nothing.
func TestSat(t *testing.T) {
	w := diamond(t)
	v := value(5, closed(1, 3))
	thing1 := func(classes ...int) []api.Thing { return []api.Thing{having(classes)} }
	num := func(num, den int) []api.Thing { return []api.Thing{valued(5, num, den)} }
	box := func(parts ...api.Thing) []api.Thing { return []api.Thing{having(nil, parts...)} }
	wheel, gear := having([]int{1}), having([]int{3})
	var none []api.Thing
	for i, c := range []struct {
		f    api.Formula
		want []api.Thing
	}{
		// Classes: those of Yes, also if others follow from them.
		{yes, thing1()}, {no, none}, {and(), thing1()}, {non(yes), none}, {non(no), thing1()}, {class(1), thing1(1)}, {class(3), thing1(3)}, {non(class(1)), thing1()}, {and(class(3), class(0)), thing1(0, 3)}, {and(class(2), class(1), class(2)), thing1(1, 2)}, {and(class(1), class(2), non(class(3))), thing1(1, 2)}, {and(class(0), non(class(1)), non(class(2))), thing1(0)},
		{and(class(3), non(class(0))), none}, {and(class(3), non(class(3))), none}, {and(class(3), non(class(1))), none}, {and(class(1), non(class(2))), thing1(1)}, {and(class(1), non(class(3))), thing1(1)},
		// The first alternative that is left.
		{or(class(2), class(1)), thing1(2)}, {or(class(1), class(2)), thing1(1)}, {or(no, class(2), yes), thing1(2)}, {or(yes, class(2)), thing1()}, {or(and(class(1), non(class(0))), class(2), class(3)), thing1(2)}, {and(or(class(1), class(2)), non(class(1))), thing1(2)}, {and(or(class(0), class(1)), or(class(2), class(3))), thing1(0, 2)}, {and(or(class(3), class(1)), non(class(2))), thing1(1)}, {or(and(class(1), v, value(5, above(3))), class(3)), thing1(3)}, {non(and(class(1), class(2))), thing1()}, {non(or(class(1), non(class(2)))), thing1(2)}, {or(and(class(1), non(class(1))), and(class(2), non(class(0)))), none},
		// Values: the simplest number, or none if it may be absent.
		{v, num(1, 1)}, {value(5), none}, {value(5, all), num(0, 1)}, {non(v), thing1()}, {non(value(5, all)), thing1()}, {non(value(5)), thing1()}, {non(value(31, above(2))), thing1()}, {and(v, non(v)), none}, {and(v, non(value(5, closed(1, 2)))), num(3, 1)}, {and(value(5, all), non(value(5, closed(-1, 3)))), num(-2, 1)}, {and(value(5, all), non(value(5, closed(-3, 1)))), num(2, 1)}, {value(5, open(ratio(1, 3), ratio(1, 2))), num(2, 5)}, {value(5, closed(-1, -1), closed(1, 1)), num(1, 1)}, {value(5, below(-5), open(ratio(1, 2), ratio(1, 1)), closed(7, 8)), num(-6, 1)}, {value(5, closed(6, 7), above(8)), num(6, 1)}, {value(5, above(1<<30)), num(1<<30+1, 1)}, {value(5, below(-1<<30)), num(-1<<30-1, 1)}, {value(5, open(ratio(32766, 32767), ratio(32767, 32768))), num(65533, 65535)},
		{and(v, value(5, closed(2, 9))), num(2, 1)}, {and(v, value(5, closed(4, 9))), none}, {and(v, or(value(5, closed(4, 9)), value(5, above(2)))), num(3, 1)}, {and(or(v, class(1)), non(value(5, all))), thing1(1)}, {and(non(v), value(5, closed(0, 2))), num(0, 1)}, {or(value(5), value(6), value(5, closed(4, 4))), num(4, 1)},
		{and(value(9, closed(4, 5)), non(value(7, closed(0, 1))), v, class(2)), []api.Thing{{Classes: []int{2}, Values: []api.Value{{Attr: 5, N: ratio(1, 1)}, {Attr: 9, N: ratio(4, 1)}}}}}, {and(value(31, all), value(0, above(0))), []api.Thing{{Values: []api.Value{{Attr: 0, N: ratio(1, 1)}, {Attr: 31, N: ratio(0, 1)}}}}},
		// Parts: one for each formula, equal ones also if formulas differ; in the order of things, not of formulas.
		{part(yes), box(api.Thing{})}, {part(no), none}, {non(part(yes)), thing1()}, {non(part(no)), thing1()}, {non(non(part(class(1)))), box(wheel)}, {part(part(class(3))), box(having(nil, gear))}, {within(7, api.OpPart, class(1)), []api.Thing{having(nil, having(nil, having(nil, having(nil, having(nil, having(nil, having(nil, wheel)))))))}}, {and(class(2), part(class(1))), []api.Thing{having([]int{2}, wheel)}}, {part(v), box(valued(5, 1, 1))}, {part(and(class(1), non(class(1)))), none}, {part(value(5)), none}, {part(part(no)), none},
		{and(part(class(1)), part(class(1))), box(wheel)}, {and(part(class(1)), part(and(class(1)))), box(wheel, wheel)}, {and(part(class(0)), part(class(1))), box(having([]int{0}), wheel)}, {and(part(yes), part(class(1)), part(and())), box(api.Thing{}, api.Thing{}, wheel)}, {and(part(class(1)), part(v)), box(valued(5, 1, 1), wheel)}, {and(part(or(class(1), no)), part(and(class(3), part(class(2)))), part(class(2))), box(wheel, having([]int{2}), having([]int{3}, having([]int{2})))}, {part(and(part(class(1)), part(v), part(yes))), box(having(nil, api.Thing{}, valued(5, 1, 1), wheel))}, {and(part(class(1)), part(part(class(1))), class(0)), []api.Thing{having([]int{0}, having(nil, wheel), wheel)}},
		{and(part(class(1)), part(no)), none}, {and(part(no), part(class(1))), none}, {or(part(no), part(class(2))), box(having([]int{2}))}, {or(and(part(class(1)), part(value(5))), class(2)), thing1(2)}, {and(or(part(no), part(class(3))), class(1)), []api.Thing{having([]int{1}, gear)}}, {part(or(no, class(3), class(1))), box(gear)},
		// No part may be one of None, which all parts have to keep to.
		{and(part(class(1)), non(part(class(3)))), box(wheel)}, {and(part(class(1)), non(part(class(1)))), none}, {and(part(class(3)), non(part(class(0)))), none}, {and(non(part(yes)), part(class(3))), none}, {and(non(part(no)), part(class(3))), box(gear)}, {and(part(or(class(1), class(2))), non(part(class(1)))), box(having([]int{2}))}, {and(part(or(class(1), class(2), class(0))), non(part(class(2))), non(part(class(1)))), box(having([]int{0}))}, {and(part(class(0)), part(class(3)), non(part(class(1)))), none}, {and(part(class(0)), part(class(2)), non(part(class(1)))), box(having([]int{0}), having([]int{2}))}, {or(and(part(class(1)), non(part(class(0)))), part(class(2))), box(having([]int{2}))}, {or(and(part(class(1)), non(part(class(1)))), and(part(class(1)), non(part(class(2))))), box(wheel)}, {or(and(part(or(class(0), class(1))), non(part(class(3))), no), and(part(or(class(3), class(1))), non(part(class(3))))), box(wheel)},
		{and(part(v), non(part(value(5, closed(1, 2))))), box(valued(5, 3, 1))}, {and(part(non(v)), non(part(non(value(5, all))))), box(valued(5, 0, 1))}, {and(part(class(1)), non(part(non(value(5, closed(2, 3)))))), box(api.Thing{Classes: []int{1}, Values: []api.Value{{Attr: 5, N: ratio(2, 1)}}})}, {and(part(v), non(part(value(5, all)))), none}, {and(non(part(non(class(2)))), part(class(1)), part(yes)), box(having([]int{1, 2}), having([]int{2}))},
		// What a part must not be can be what its parts have to be.
		{and(part(part(class(1))), non(part(part(class(3))))), box(having(nil, wheel))}, {and(part(part(class(3))), non(part(part(class(1))))), none}, {and(part(class(0)), non(part(non(part(class(2)))))), box(having([]int{0}, having([]int{2})))}, {and(part(class(0)), part(class(1)), non(part(or(non(part(class(2))), non(part(class(3))))))), box(having([]int{0}, having([]int{2}), gear), having([]int{1}, having([]int{2}), gear))}, {and(part(part(class(0))), non(part(non(part(class(1)))))), box(having(nil, having([]int{0}), wheel))}, {and(part(non(part(yes))), non(part(non(part(class(1)))))), none}, {and(part(part(or(class(1), class(2)))), non(part(part(class(1))))), box(having(nil, having([]int{2})))}, {and(part(or(part(class(1)), class(2))), non(part(part(yes)))), box(having([]int{2}))}, {and(part(and(part(class(0)), non(part(class(1))))), non(part(non(part(class(2)))))), box(having(nil, having([]int{0}), having([]int{2})))}, {and(part(non(part(class(2)))), part(part(class(2))), non(part(and(non(class(3)), non(part(class(1))))))), box(gear, having([]int{3}, having([]int{2})))},
	} {
		o := w.rightly(t, c.f)
		if o.e != api.OK || o.some != (len(c.want) == 1) || o.some && !sameThing(o.thing, c.want[0]) {
			t.Errorf("case %d: Sat(%v): %v", i, c.f, o)
		}
		// The same within nodes that change nothing.
		for _, f := range []api.Formula{or(c.f), and(c.f), non(non(c.f)), and(c.f, yes), or(no, c.f)} {
			if got, some, e := decide.Sat(w.x, f); deep(f) <= 8 && (e != api.OK || some != o.some || !sameThing(got, o.thing)) {
				t.Errorf("case %d within %v: %v, %v, %d", i, f, got, some, e)
			}
		}
	}
}

// even and odd have 32 intervals each, and 63 numbers in common; the set of all other numbers has 33 intervals.
var even, odd = value(0, apart(32, 0)...), value(0, apart(32, 1)...)

// P10.1: the errors, in their order, and where there is none, as nothing more is examined.
func TestSatErrors(t *testing.T) {
	x, twice := diamond(t).x, and(class(1), non(class(0)))
	empty, _ := taxon.New(nil)
	bad, large, many := class(64), star(97), choice(65)
	eight, nine := choice(8), and(slices.Repeat([]api.Formula{class(2)}, 9)...)
	for i, c := range []struct {
		x    *taxon.Taxon
		f    api.Formula
		some bool
		e    api.Errno
	}{
		// Those of the formula itself.
		{nil, yes, false, api.ErrArg}, {nil, no, false, api.ErrArg}, {nil, large, false, api.ErrArg}, {nil, many, false, api.ErrArg}, {nil, class(4), false, api.ErrArg}, {x, bad, false, api.ErrArg}, {x, class(-1), false, api.ErrArg}, {x, of(7), false, api.ErrArg}, {x, of(api.OpNot), false, api.ErrArg}, {x, value(32), false, api.ErrArg}, {x, value(0, closed(2, 1)), false, api.ErrArg}, {x, part(bad), false, api.ErrArg}, {x, or(yes, bad), false, api.ErrArg}, {x, large, false, api.ErrLimit}, {x, within(8, api.OpPart, yes), false, api.ErrLimit}, {x, and(star(95), bad), false, api.ErrLimit}, {x, and(class(9), bad), false, api.ErrArg},
		{x, class(4), false, api.ErrNone}, {x, non(class(63)), false, api.ErrNone}, {x, part(class(4)), false, api.ErrNone}, {x, or(yes, part(class(4))), false, api.ErrNone}, {x, non(part(class(4))), false, api.ErrNone}, {x, and(no, class(5)), false, api.ErrNone}, {x, or(many, part(class(4))), false, api.ErrNone}, {x, or(yes, and(part(no), part(part(class(7))))), false, api.ErrNone}, {empty, class(0), false, api.ErrNone}, {empty, part(non(class(0))), false, api.ErrNone}, {empty, yes, true, api.OK}, {empty, part(value(0)), false, api.OK}, {&taxon.Taxon{}, part(yes), true, api.OK}, {&taxon.Taxon{}, class(0), false, api.ErrNone},
		{x, many, false, api.ErrLimit}, {x, choice(64), true, api.OK}, {x, and(eight, eight), true, api.OK}, {x, and(eight, choice(9)), false, api.ErrLimit}, {x, and(no, many), false, api.ErrLimit}, {x, or(yes, many), false, api.ErrLimit}, {x, non(even), false, api.ErrLimit}, {x, and(even, odd), false, api.ErrLimit}, {x, even, true, api.OK}, {x, non(many), true, api.OK}, {x, non(nine), true, api.OK},
		// Those of formulas of parts, which only these have.
		{x, part(many), false, api.ErrLimit}, {x, part(choice(64)), true, api.OK}, {x, part(part(many)), false, api.ErrLimit}, {x, part(non(even)), false, api.ErrLimit}, {x, part(and(odd, even)), false, api.ErrLimit}, {x, non(part(many)), true, api.OK}, {x, non(part(non(even))), true, api.OK}, {x, and(no, part(many)), false, api.OK}, {x, and(class(1), part(class(2)), part(part(many))), false, api.ErrLimit}, {x, part(and(part(no), part(many))), false, api.OK}, {x, part(or(part(many), yes)), false, api.ErrLimit}, {x, part(or(yes, part(many))), true, api.OK},
		// Those of None come with a part.
		{x, and(part(yes), non(part(even))), false, api.ErrLimit}, {x, and(part(yes), non(part(non(even)))), true, api.OK}, {x, and(part(even), non(part(non(odd)))), false, api.ErrLimit}, {x, and(part(even), non(part(odd))), false, api.ErrLimit}, {x, and(part(eight), non(part(nine))), false, api.ErrLimit}, {x, and(part(eight), non(part(non(eight)))), true, api.OK}, {x, and(part(choice(7)), non(part(nine))), true, api.OK}, {x, and(part(eight), non(part(non(choice(9))))), false, api.ErrLimit}, {x, and(part(choice(33)), non(part(and(class(2), class(2))))), false, api.ErrLimit}, {x, and(part(choice(32)), non(part(and(class(2), class(2))))), true, api.OK}, {x, and(part(choice(32)), non(part(and(class(2), class(2)))), non(part(and(class(3), class(3))))), false, api.ErrLimit}, {x, and(part(no), non(part(non(many)))), false, api.ErrLimit},
		// The alternatives are examined in order, up to the first one that is not passed over.
		{x, or(yes, part(many)), true, api.OK}, {x, or(part(many), yes), false, api.ErrLimit}, {x, or(no, part(many), yes), false, api.ErrLimit}, {x, or(and(twice, part(many)), yes), true, api.OK}, {x, or(and(value(3), part(many)), no), false, api.OK}, {x, or(and(class(0), non(class(1)), part(many)), yes), false, api.ErrLimit}, {x, or(and(value(3, all), part(many)), yes), false, api.ErrLimit}, {x, or(and(non(value(3, all)), part(many)), yes), false, api.ErrLimit}, {x, or(part(no), part(many), yes), false, api.ErrLimit}, {x, or(part(no), yes, part(many)), true, api.OK}, {x, or(part(class(1)), part(many)), true, api.OK},
		// The formulas of Has are examined in their order, up to the first one that is not satisfiable.
		{x, and(part(many), part(no)), false, api.OK}, {x, and(part(no), part(many)), false, api.OK}, {x, and(part(many), part(and(no))), false, api.OK}, {x, and(part(many), part(non(yes))), false, api.ErrLimit}, {x, and(part(non(yes)), part(many)), false, api.ErrLimit}, {x, and(part(many), part(class(1))), false, api.ErrLimit}, {x, or(and(part(many), part(twice)), class(2)), true, api.OK}, {x, or(and(part(twice), part(many)), class(2)), true, api.OK}, {x, and(part(many), part(class(3)), non(part(class(0)))), false, api.OK}, {x, and(part(class(2)), part(class(1)), non(part(class(1))), part(many)), false, api.OK}, {x, and(part(class(2)), part(class(1)), non(part(class(3))), part(many)), false, api.ErrLimit},
	} {
		got, some, e := decide.Sat(c.x, c.f)
		if some != c.some || e != c.e || !some && !sameThing(got, api.Thing{}) {
			t.Errorf("case %d: Sat(%v): %v, %v, %d", i, c.f, got, some, e)
		}
	}
}

// crowd returns a formula of things with so many parts, each of which has so many parts.
func crowd(parts, each int) api.Formula {
	var l []api.Formula
	for i := range parts {
		l = append(l, part(class(i)))
	}
	for i := range each {
		l = append(l, non(part(non(part(class(i))))))
	}
	return and(l...)
}

// with returns a formula with one more kid.
func with(f, k api.Formula) api.Formula { return of(f.Op, append(slices.Clone(f.Kids), k)...) }

// P10.1: things with many nodes; they count only if they are found in the end.
func TestSatLarge(t *testing.T) {
	w := worldOf(t, make([][]int, 64)...)
	huge := crowd(10, 10)
	for i, c := range []struct {
		f     api.Formula
		nodes int
		e     api.Errno
	}{
		{crowd(19, 4), 96, api.OK}, {crowd(31, 2), 94, api.OK}, {crowd(3, 17), 55, api.OK}, {crowd(32, 2), 0, api.ErrLimit}, {crowd(24, 3), 0, api.ErrLimit}, {crowd(16, 5), 0, api.ErrLimit}, {crowd(8, 11), 0, api.ErrLimit}, {crowd(6, 15), 0, api.ErrLimit}, {crowd(5, 17), 91, api.OK}, {huge, 0, api.ErrLimit},
		{part(crowd(19, 4)), 0, api.ErrLimit}, {part(crowd(31, 2)), 95, api.OK}, {part(part(crowd(31, 2))), 96, api.OK}, {part(part(crowd(19, 4))), 0, api.ErrLimit}, {with(crowd(18, 4), part(and())), 96, api.OK}, {with(with(crowd(18, 4), part(and())), part(yes)), 0, api.ErrLimit}, {and(part(crowd(31, 2)), part(yes)), 96, api.OK}, {and(part(crowd(31, 2)), part(yes), part(and())), 0, api.ErrLimit},
		// Parts that are too large, and another one that there cannot be.
		{and(part(huge), part(no)), 0, api.OK}, {and(part(no), part(huge)), 0, api.OK}, {and(part(huge), part(non(yes))), 0, api.OK}, {with(huge, part(no)), 0, api.OK}, {with(huge, part(non(yes))), 0, api.OK}, {part(with(huge, part(no))), 0, api.OK}, {and(part(huge), class(1), value(1)), 0, api.OK}, {non(part(huge)), 1, api.OK},
		// Other alternatives.
		{or(huge, yes), 0, api.ErrLimit}, {or(yes, huge), 1, api.OK}, {or(no, huge, yes), 0, api.ErrLimit}, {or(with(huge, part(no)), class(1)), 1, api.OK}, {or(with(huge, part(non(yes))), part(yes)), 2, api.OK}, {or(with(with(huge, class(1)), non(class(1))), part(yes)), 2, api.OK}, {or(with(huge, part(no)), crowd(3, 1)), 7, api.OK},
	} {
		o := w.asTold(t, c.f)
		if o.e != c.e || o.some != (c.nodes > 0) || o.some && nodes(o.thing) != c.nodes {
			t.Errorf("case %d: %d nodes, %d", i, nodes(o.thing), o.e)
		}
		if o.some && !w.satisfies(o.thing, c.f) {
			t.Errorf("case %d: %v", i, o.thing)
		}
		w.compared(t, no, c.f)
		w.compared(t, c.f, yes)
		if formula.Valid(c.f) != api.OK {
			t.Errorf("case %d: the formula is not valid", i)
		}
	}
}

// answer is what Covers, Same and Apart return.
type answer struct {
	is    bool
	thing api.Thing
	e     api.Errno
}

func answered(is bool, x api.Thing, e api.Errno) answer { return answer{is, x, e} }

func sameAnswer(a, b answer) bool {
	return a.is == b.is && a.e == b.e && sameThing(a.thing, b.thing)
}

// unless returns the answer that follows from what Sat returns for a formula.
func (w world) unless(f api.Formula) answer {
	o := w.sat(f)
	return answer{o.e == api.OK && !o.some, o.thing, o.e}
}

// covers returns what the chapter says of Covers for valid formulas.
func (w world) covers(a, b api.Formula) answer { return w.unless(and(b, non(a))) }

// compared checks the three functions for valid formulas, and that Check accepts what they return; it returns what Covers
// says.
func (w world) compared(t *testing.T, a, b api.Formula) answer {
	t.Helper()
	covers, same, apart := answered(decide.Covers(w.x, a, b)), answered(decide.Same(w.x, a, b)), answered(decide.Apart(w.x, a, b))
	there, back := w.covers(a, b), w.covers(b, a)
	both := there
	if there.is {
		both = back
	}
	if !sameAnswer(covers, there) {
		t.Fatalf("Covers(%v, %v) under %v: %v instead of %v", a, b, w.parents, covers, there)
	}
	if !sameAnswer(same, both) {
		t.Fatalf("Same(%v, %v) under %v: %v instead of %v", a, b, w.parents, same, both)
	}
	if want := w.unless(and(a, b)); !sameAnswer(apart, want) {
		t.Fatalf("Apart(%v, %v) under %v: %v instead of %v", a, b, w.parents, apart, want)
	}
	if e := decide.Check(w.x, a, b, covers.thing); !covers.is && covers.e == api.OK && e != api.OK {
		t.Fatalf("Covers(%v, %v) under %v: %v, but Check: %d", a, b, w.parents, covers, e)
	}
	if is := w.satisfies(same.thing, a) == w.satisfies(same.thing, b); same.e == api.OK && !same.is && is {
		t.Fatalf("Same(%v, %v) under %v: %v", a, b, w.parents, same)
	}
	if is := w.satisfies(apart.thing, a) && w.satisfies(apart.thing, b); apart.e == api.OK && !apart.is && !is {
		t.Fatalf("Apart(%v, %v) under %v: %v", a, b, w.parents, apart)
	}
	return covers
}

// P10.3: cases that were worked out by hand. What Covers returns is right by the meaning of both formulas.
func TestCovers(t *testing.T) {
	w := diamond(t)
	v := func(lo, hi int) api.Formula { return value(5, closed(lo, hi)) }
	for i, c := range []struct {
		a, b                api.Formula
		covers, same, apart bool
		thing               api.Thing // of Same
	}{
		{class(0), class(3), true, false, false, having([]int{0})}, {class(3), class(0), false, false, false, having([]int{0})}, {class(1), class(2), false, false, false, having([]int{2})}, {class(2), class(1), false, false, false, having([]int{1})}, {class(1), class(1), true, true, false, api.Thing{}}, {yes, class(1), true, false, false, api.Thing{}}, {class(1), yes, false, false, false, api.Thing{}}, {no, class(1), false, false, true, having([]int{1})}, {class(1), no, true, false, true, having([]int{1})}, {no, no, true, true, true, api.Thing{}}, {yes, yes, true, true, false, api.Thing{}}, {non(class(1)), class(1), false, false, true, having([]int{1})}, {class(3), non(class(3)), false, false, true, api.Thing{}}, {non(class(1)), non(class(0)), true, false, false, having([]int{0})},
		{or(class(1), class(2)), class(3), true, false, false, having([]int{1})}, {and(class(1), class(2)), class(3), true, false, false, having([]int{1, 2})}, {class(3), and(class(1), class(2)), false, false, false, having([]int{1, 2})}, {or(class(1), class(2)), and(class(1), class(2)), true, false, false, having([]int{1})}, {class(0), or(class(2), class(1)), true, false, false, having([]int{0})}, {non(and(class(1), class(2))), or(non(class(2)), non(class(1))), true, true, false, api.Thing{}}, {or(class(1), and(class(1), class(2))), class(1), true, true, false, api.Thing{}}, {or(class(1), non(class(1))), yes, true, true, false, api.Thing{}}, {class(1), and(class(2), non(class(3))), false, false, false, having([]int{2})},
		{v(1, 5), v(2, 3), true, false, false, valued(5, 1, 1)}, {v(2, 3), v(1, 5), false, false, false, valued(5, 1, 1)}, {v(1, 2), v(3, 4), false, false, true, valued(5, 3, 1)}, {v(1, 2), v(2, 4), false, false, false, valued(5, 3, 1)}, {v(1, 2), value(6, closed(1, 2)), false, false, false, valued(6, 1, 1)}, {value(5), v(1, 2), false, false, true, valued(5, 1, 1)}, {v(1, 2), value(5), true, false, true, valued(5, 1, 1)}, {or(value(5, below(2)), value(5, above(1))), value(5, all), true, true, false, api.Thing{}}, {or(value(5, below(2)), value(5, above(2))), value(5, all), false, false, false, valued(5, 2, 1)}, {non(v(1, 2)), value(5, above(2)), true, false, false, api.Thing{}}, {value(5, all), non(v(1, 2)), false, false, false, api.Thing{}}, {v(1, 3), and(v(0, 2), v(1, 4)), true, false, false, valued(5, 3, 1)},
		{part(class(0)), part(class(1)), true, false, false, having(nil, having([]int{0}))}, {part(class(1)), part(class(0)), false, false, false, having(nil, having([]int{0}))}, {part(or(class(1), class(2))), or(part(class(1)), part(class(2))), true, true, false, api.Thing{}}, {part(and(class(1), class(2))), and(part(class(1)), part(class(2))), false, false, false, having(nil, having([]int{1}), having([]int{2}))}, {and(part(class(1)), part(class(2))), part(and(class(1), class(2))), true, false, false, having(nil, having([]int{1}), having([]int{2}))}, {part(class(1)), non(part(class(1))), false, false, true, api.Thing{}}, {part(class(1)), class(1), false, false, false, having([]int{1})}, {part(yes), part(part(class(1))), true, false, false, having(nil, api.Thing{})}, {no, part(no), true, true, true, api.Thing{}}, {part(non(class(1))), non(part(class(1))), false, false, false, api.Thing{}}, {non(part(class(1))), part(non(class(1))), false, false, false, having(nil, api.Thing{}, having([]int{1}))}, {part(no), part(and(class(3), non(class(1)))), true, true, true, api.Thing{}}, {part(class(1)), part(class(2)), false, false, false, having(nil, having([]int{2}))},
	} {
		covers, same, apart := w.compared(t, c.a, c.b), answered(decide.Same(w.x, c.a, c.b)), answered(decide.Apart(w.x, c.a, c.b))
		if covers.is != c.covers || covers.e != api.OK || covers.is == w.satisfiable(and(c.b, non(c.a))) {
			t.Errorf("case %d: Covers: %v", i, covers)
		}
		if same.is != c.same || same.e != api.OK || !sameThing(same.thing, c.thing) {
			t.Errorf("case %d: Same: %v", i, same)
		}
		if apart.is != c.apart || apart.e != api.OK || apart.is == w.satisfiable(and(c.a, c.b)) {
			t.Errorf("case %d: Apart: %v", i, apart)
		}
	}
}

// P10.3: the errors, in their order.
func TestCoversErrors(t *testing.T) {
	w := diamond(t)
	x := w.x
	bad, large, deepest, many := class(64), star(97), within(8, api.OpNot, yes), choice(65)
	down := func(levels int) api.Formula { return within(levels-1, api.OpPart, class(1)) }
	for i, c := range []struct {
		x                   *taxon.Taxon
		a, b                api.Formula
		covers, same, apart api.Errno
	}{
		// Those of a, and then of b.
		{x, bad, yes, api.ErrArg, api.ErrArg, api.ErrArg}, {x, yes, bad, api.ErrArg, api.ErrArg, api.ErrArg}, {x, large, yes, api.ErrLimit, api.ErrLimit, api.ErrLimit}, {x, yes, deepest, api.ErrLimit, api.ErrLimit, api.ErrLimit}, {x, bad, large, api.ErrArg, api.ErrArg, api.ErrArg}, {x, large, bad, api.ErrLimit, api.ErrLimit, api.ErrLimit}, {x, deepest, bad, api.ErrLimit, api.ErrLimit, api.ErrLimit}, {x, bad, deepest, api.ErrArg, api.ErrArg, api.ErrArg}, {x, class(9), bad, api.ErrArg, api.ErrArg, api.ErrArg}, {x, bad, class(9), api.ErrArg, api.ErrArg, api.ErrArg}, {x, class(9), large, api.ErrLimit, api.ErrLimit, api.ErrLimit}, {x, many, of(7), api.ErrArg, api.ErrArg, api.ErrArg},
		{nil, bad, yes, api.ErrArg, api.ErrArg, api.ErrArg}, {nil, large, yes, api.ErrLimit, api.ErrLimit, api.ErrLimit}, {nil, yes, deepest, api.ErrLimit, api.ErrLimit, api.ErrLimit}, {nil, bad, large, api.ErrArg, api.ErrArg, api.ErrArg}, {nil, large, bad, api.ErrLimit, api.ErrLimit, api.ErrLimit},
		// Those of Sat: there is no taxonomy, both are too large together, a class is missing, there are too many alternatives.
		{nil, yes, yes, api.ErrArg, api.ErrArg, api.ErrArg}, {nil, star(90), star(90), api.ErrArg, api.ErrArg, api.ErrArg}, {nil, down(8), down(8), api.ErrArg, api.ErrArg, api.ErrArg}, {nil, many, class(9), api.ErrArg, api.ErrArg, api.ErrArg},
		{x, star(47), star(47), api.OK, api.OK, api.OK}, {x, star(48), star(47), api.ErrLimit, api.ErrLimit, api.OK}, {x, star(48), star(48), api.ErrLimit, api.ErrLimit, api.ErrLimit}, {x, star(93), yes, api.OK, api.OK, api.OK}, {x, yes, star(94), api.ErrLimit, api.ErrLimit, api.OK}, {x, star(94), yes, api.ErrLimit, api.ErrLimit, api.OK}, {x, yes, star(95), api.ErrLimit, api.ErrLimit, api.ErrLimit},
		{x, down(6), down(6), api.OK, api.OK, api.OK}, {x, down(7), no, api.ErrLimit, api.ErrLimit, api.OK}, {x, down(7), down(7), api.ErrLimit, api.ErrLimit, api.OK}, {x, yes, down(7), api.OK, api.ErrLimit, api.OK}, {x, down(8), yes, api.ErrLimit, api.ErrLimit, api.ErrLimit}, {x, yes, down(8), api.ErrLimit, api.ErrLimit, api.ErrLimit}, {x, down(8), class(9), api.ErrLimit, api.ErrLimit, api.ErrLimit}, {x, class(9), star(95), api.ErrLimit, api.ErrLimit, api.ErrLimit},
		{x, class(4), yes, api.ErrNone, api.ErrNone, api.ErrNone}, {x, yes, class(4), api.ErrNone, api.ErrNone, api.ErrNone}, {x, no, part(class(4)), api.ErrNone, api.ErrNone, api.ErrNone}, {x, many, class(4), api.ErrNone, api.ErrNone, api.ErrNone}, {x, part(class(4)), many, api.ErrNone, api.ErrNone, api.ErrNone},
		{x, yes, many, api.ErrLimit, api.ErrLimit, api.ErrLimit}, {x, many, class(1), api.OK, api.ErrLimit, api.ErrLimit}, {x, many, no, api.OK, api.ErrLimit, api.ErrLimit}, {x, even, yes, api.ErrLimit, api.ErrLimit, api.OK}, {x, non(even), yes, api.OK, api.OK, api.ErrLimit}, {x, even, odd, api.ErrLimit, api.ErrLimit, api.ErrLimit}, {x, part(even), part(class(1)), api.ErrLimit, api.ErrLimit, api.OK}, {x, part(even), non(part(yes)), api.OK, api.OK, api.OK}, {x, part(choice(8)), part(or(choice(3), choice(6))), api.OK, api.OK, api.OK},
		// Same does not ask for the second direction if the first one has a thing, but it does otherwise.
		{x, no, down(7), api.OK, api.OK, api.OK}, {x, class(1), non(even), api.ErrLimit, api.ErrLimit, api.ErrLimit}, {x, class(1), even, api.OK, api.OK, api.OK}, {x, or(even, class(1)), even, api.ErrLimit, api.ErrLimit, api.OK}, {x, value(0, all), even, api.OK, api.ErrLimit, api.OK},
	} {
		covers, same, apart := answered(decide.Covers(c.x, c.a, c.b)), answered(decide.Same(c.x, c.a, c.b)), answered(decide.Apart(c.x, c.a, c.b))
		for j, got := range []answer{covers, same, apart} {
			if e := []api.Errno{c.covers, c.same, c.apart}[j]; got.e != e || e != api.OK && (got.is || !sameThing(got.thing, api.Thing{})) {
				t.Errorf("case %d: function %d: %v", i, j, got)
			}
		}
		if c.x != nil && formula.Valid(c.a) == api.OK && formula.Valid(c.b) == api.OK {
			w.compared(t, c.a, c.b)
		}
	}
}

// P10.4: cases that were worked out by hand, with the errors in their order.
func TestCheck(t *testing.T) {
	x := diamond(t).x
	empty, _ := taxon.New(nil)
	fine, gear := api.Thing{}, having([]int{3})
	large, twisted := having(nil, make([]api.Thing, 96)...), having([]int{2, 1})
	bad, wide := class(64), star(97)
	for i, c := range []struct {
		x    *taxon.Taxon
		a, b api.Formula
		t    api.Thing
		e    api.Errno
	}{
		// b holds and a does not; otherwise it is no proof.
		{x, no, yes, fine, api.OK}, {x, yes, yes, fine, api.ErrProof}, {x, no, no, fine, api.ErrProof}, {x, yes, no, fine, api.ErrProof}, {x, class(3), class(0), having([]int{0}), api.OK}, {x, class(3), class(0), gear, api.ErrProof}, {x, class(3), class(0), fine, api.ErrProof}, {x, class(1), class(2), having([]int{2}), api.OK}, {x, class(1), class(2), having([]int{1}), api.ErrProof}, {x, class(1), class(2), having([]int{1, 2}), api.ErrProof}, {x, class(0), class(3), gear, api.ErrProof},
		{x, value(0, closed(1, 2)), value(0, closed(1, 3)), valued(0, 5, 2), api.OK}, {x, value(0, closed(1, 2)), value(0, closed(1, 3)), valued(0, 3, 2), api.ErrProof}, {x, value(0, closed(1, 2)), value(0, closed(1, 3)), valued(1, 5, 2), api.ErrProof}, {x, part(class(1)), part(class(0)), having(nil, having([]int{2})), api.OK}, {x, part(class(1)), part(class(0)), having(nil, having([]int{2}), gear), api.ErrProof}, {x, part(class(1)), part(class(0)), gear, api.ErrProof},
		// The thing has not to be in normal form, nor the one that Covers returns.
		{x, class(3), part(yes), having([]int{1, 2}, gear, having([]int{0})), api.OK}, {x, no, and(part(yes), even), api.Thing{Values: []api.Value{{Attr: 0, N: ratio(5, 2)}, {Attr: 9, N: ratio(1, 65536)}}, Parts: []api.Thing{gear, fine}}, api.OK},
		// Limits: of a formula alone, not of two together.
		{x, within(8, api.OpAnd, no), yes, fine, api.ErrLimit}, {x, within(7, api.OpAnd, no), within(7, api.OpOr, yes), fine, api.OK}, {x, and(star(95), no), star(96), fine, api.ErrLimit}, {x, and(star(94), no), star(96), fine, api.OK}, {x, non(choice(90)), choice(90), gear, api.OK}, {x, non(even), even, valued(0, 0, 1), api.OK}, {x, no, yes, having(nil, make([]api.Thing, 95)...), api.OK},
		// Those of formula.Holds for b.
		{nil, no, yes, fine, api.ErrArg}, {nil, bad, wide, large, api.ErrArg}, {x, no, bad, fine, api.ErrArg}, {x, no, wide, fine, api.ErrLimit}, {x, bad, wide, twisted, api.ErrLimit}, {x, wide, bad, large, api.ErrArg}, {x, no, bad, large, api.ErrArg}, {x, no, wide, twisted, api.ErrLimit}, {x, no, yes, large, api.ErrLimit}, {x, no, yes, twisted, api.ErrArg}, {x, wide, yes, twisted, api.ErrArg}, {x, bad, yes, large, api.ErrLimit}, {x, no, class(4), twisted, api.ErrArg}, {x, no, part(class(9)), large, api.ErrLimit}, {x, no, class(4), fine, api.ErrNone}, {x, bad, class(4), fine, api.ErrNone}, {x, wide, no, having([]int{4}), api.ErrNone}, {x, no, yes, having(nil, having([]int{63})), api.ErrNone}, {empty, wide, yes, having([]int{0}), api.ErrNone},
		// Those for a, also if b does not hold.
		{x, bad, yes, fine, api.ErrArg}, {x, wide, yes, fine, api.ErrLimit}, {x, class(4), yes, fine, api.ErrNone}, {x, part(class(9)), yes, fine, api.ErrNone}, {x, bad, no, fine, api.ErrArg}, {x, wide, no, gear, api.ErrLimit}, {x, class(4), class(3), fine, api.ErrNone}, {x, class(3), class(4), gear, api.ErrNone}, {empty, class(0), yes, fine, api.ErrNone}, {empty, value(0, all), yes, fine, api.OK},
	} {
		if e := decide.Check(c.x, c.a, c.b, c.t); e != c.e {
			t.Errorf("case %d: %d", i, e)
		}
	}
}

// P10.4: any formulas and things.
func TestCheckRandom(t *testing.T) {
	rnd := rand.New(rand.NewSource(101))
	shown := 0
	for range 5000 {
		w := someWorld(t, rnd, 3)
		a, b, x := someFormula(rnd, 1+rnd.Intn(12), 6), someFormula(rnd, 1+rnd.Intn(12), 6), someThing(rnd, 1+rnd.Intn(3))
		want := api.ErrProof
		if w.satisfies(x, b) && !w.satisfies(x, a) {
			want = api.OK
			shown++
		}
		if e := decide.Check(w.x, a, b, x); e != want {
			t.Fatalf("Check(%v, %v, %v) under %v: %d", a, b, x, w.parents, e)
		}
	}
	if shown < 500 || shown > 4500 {
		t.Errorf("%d things show something", shown)
	}
}

// low returns formulas without kids, and all those with an operation and one or two of them as kids.
func low() []api.Formula {
	leaves := []api.Formula{yes, no, class(0), class(1), class(2), value(0), value(0, closed(1, 2)), value(0, below(2)), value(1, all)}
	return append(slices.Clone(leaves), over(leaves)...)
}

// over returns all formulas with an operation and one or two kids of a list.
func over(l []api.Formula) []api.Formula {
	var up []api.Formula
	for i, f := range l {
		up = append(up, non(f), part(f))
		for _, g := range l[:i] {
			up = append(up, and(f, g), or(g, f), and(part(f), non(part(g))), and(part(g), part(f)))
		}
	}
	return up
}

// some returns each nth formula of a list, without those that have more levels than allowed.
func some(l []api.Formula, n, levels int) []api.Formula {
	var few []api.Formula
	for i := 0; i < len(l); i += n {
		if deep(l[i]) <= levels {
			few = append(few, l[i])
		}
	}
	return few
}

// P10.1, P10.2 and P10.5: formulas of few levels.
func TestEvery(t *testing.T) {
	w := worldOf(t, nil, []int{0}, nil)
	found, nothing := 0, 0
	l := append(low(), over(some(low(), 3, 8))...)
	for _, f := range append(some(l, 1, 8), some(over(some(l, 151, 8)), 1, 8)...) {
		o := w.rightly(t, f)
		if o.e != api.OK {
			t.Fatalf("%v: %d", f, o.e)
		}
		if o.some {
			found++
		} else {
			nothing++
		}
	}
	if found < 1000 || nothing < 500 {
		t.Errorf("%d are satisfiable, %d are not", found, nothing)
	}
}

// P10.3, P10.6 and P10.9: pairs of formulas of few levels, and their parts.
func TestEveryPair(t *testing.T) {
	w := worldOf(t, nil, []int{0}, nil)
	l := append(some(low(), 4, 5), some(over(some(low(), 9, 5)), 41, 5)...)
	covered := 0
	for _, a := range l {
		for _, b := range l {
			is := w.compared(t, a, b)
			if is.e != api.OK || is.is == w.satisfiable(and(b, non(a))) {
				t.Fatalf("Covers(%v, %v): %v", a, b, is)
			}
			inPart := w.compared(t, part(a), part(b))
			if inPart.e != api.OK || inPart.is != (is.is || !w.satisfiable(b)) {
				t.Fatalf("Covers(%v, %v): %v", part(a), part(b), inPart)
			}
			if is.is {
				covered++
			}
		}
	}
	if count := len(l) * len(l); covered < count/20 || covered > count/2 {
		t.Errorf("%d of %d", covered, count)
	}
}

// P10.1, P10.2 and P10.5: random formulas. Those that are small are examined by both references.
func TestRandom(t *testing.T) {
	rnd := rand.New(rand.NewSource(102))
	count := map[api.Errno]int{}
	nothing, small := 0, 0
	for i := range 6000 {
		w := someWorld(t, rnd, 3)
		f := someFormula(rnd, 1+i%96, 3+rnd.Intn(6))
		if size(f) <= 14 {
			small++
			w.rightly(t, f)
		}
		o := w.asTold(t, f)
		count[o.e]++
		if o.some && !w.satisfies(o.thing, f) {
			t.Fatalf("Sat(%v) under %v: %v", f, w.parents, o.thing)
		}
		if o.some || o.e != api.OK {
			continue
		}
		nothing++
		for range 30 {
			if x := someThing(rnd, 1+rnd.Intn(4)); w.satisfies(x, f) {
				t.Fatalf("Sat(%v) under %v: nothing, but there is %v", f, w.parents, x)
			}
		}
	}
	if small < 1000 || nothing < 500 || count[api.OK] < 4000 || count[api.ErrLimit] < 200 {
		t.Errorf("%d small ones, nothing for %d, errors %v", small, nothing, count)
	}
}

// someAnd returns OpAnd of formulas of parts and of negated ones, with the parts of few formulas.
func someAnd(rnd *rand.Rand, levels int) api.Formula {
	var l, kinds []api.Formula
	for range 2 + rnd.Intn(3) {
		kinds = append(kinds, someLeaf(rnd), someFormula(rnd, 4, 3))
		if levels > 1 {
			kinds = append(kinds, someAnd(rnd, levels-1))
		}
	}
	for range 1 + rnd.Intn(4) {
		f := part(kinds[rnd.Intn(len(kinds))])
		if rnd.Intn(3) == 0 {
			f = part(or(kinds[rnd.Intn(len(kinds))], kinds[rnd.Intn(len(kinds))]))
		}
		if rnd.Intn(2) == 0 {
			f = non(f)
		}
		l = append(l, f)
	}
	return and(l...)
}

// P10.1, P10.2 and P10.5: random formulas of parts that are needed and parts that must not be, on some levels.
func TestRandomParts(t *testing.T) {
	rnd := rand.New(rand.NewSource(103))
	found, nothing := 0, 0
	for range 3000 {
		w := someWorld(t, rnd, 3)
		f := someAnd(rnd, 1+rnd.Intn(2))
		if deep(f) > 8 || size(f) > 96 {
			continue
		}
		o := w.asTold(t, f)
		if size(f) <= 40 {
			o = w.rightly(t, f)
		}
		if o.some {
			found++
		} else if o.e == api.OK {
			nothing++
		}
	}
	if found < 800 || nothing < 300 {
		t.Errorf("%d are satisfiable, %d are not", found, nothing)
	}
}

// P10.3 and P10.6: random pairs. If a covers b, it holds for each thing for which b does.
func TestRandomPairs(t *testing.T) {
	rnd := rand.New(rand.NewSource(104))
	covered, fall := 0, 0
	for i := range 3000 {
		w := someWorld(t, rnd, 3)
		a, b := someFormula(rnd, 1+i%40, 6), someFormula(rnd, 1+rnd.Intn(20), 6)
		if i%3 == 0 {
			a = or(someFormula(rnd, 5, 3), b)
		}
		is := w.compared(t, a, b)
		if !is.is {
			continue
		}
		covered++
		for range 20 {
			x := someThing(rnd, 1+rnd.Intn(4))
			if !w.satisfies(x, b) {
				continue
			}
			fall++
			if inA, e := formula.Holds(w.x, a, x); !inA || e != api.OK {
				t.Fatalf("Covers(%v, %v) under %v, but not %v", a, b, w.parents, x)
			}
		}
	}
	if covered < 700 || fall < 3000 {
		t.Errorf("%d covered, %d things", covered, fall)
	}
}

// certain returns what Covers says, if it says something.
func (w world) certain(t *testing.T, a, b api.Formula) (is, ok bool) {
	t.Helper()
	is, x, e := decide.Covers(w.x, a, b)
	if e != api.OK && e != api.ErrLimit || is && (e != api.OK || !sameThing(x, api.Thing{})) {
		t.Fatalf("Covers(%v, %v) under %v: %v, %v, %d", a, b, w.parents, is, x, e)
	}
	return is, e == api.OK
}

// P10.6: Covers is reflexive and transitive.
func TestOrder(t *testing.T) {
	rnd := rand.New(rand.NewSource(105))
	steps := 0
	for range 12 {
		w := someWorld(t, rnd, 3)
		l := some(low(), 23, 8)
		for range 14 {
			l = append(l, someFormula(rnd, 1+rnd.Intn(7), 5))
		}
		above := make([][]bool, len(l))
		for i, a := range l {
			for _, b := range l {
				is, ok := w.certain(t, a, b)
				if !ok {
					t.Fatalf("Covers(%v, %v): too large", a, b)
				}
				above[i] = append(above[i], is)
			}
			if !above[i][i] {
				t.Fatalf("%v does not cover itself", a)
			}
		}
		for i, a := range l {
			for j, b := range l {
				for k, c := range l {
					if above[i][j] && above[j][k] && i != j && j != k {
						steps++
						if !above[i][k] {
							t.Fatalf("%v covers %v, which covers %v", a, b, c)
						}
					}
				}
			}
		}
	}
	if steps < 3000 {
		t.Errorf("%d steps", steps)
	}
}

// P10.7: OpOr covers both kids, and both cover OpAnd; a formula is apart from its OpNot.
func TestBoolean(t *testing.T) {
	rnd := rand.New(rand.NewSource(106))
	joined, large := 0, 0
	for i := range 3000 {
		w := someWorld(t, rnd, 3)
		a, b, c := someFormula(rnd, 1+i%20, 4), someFormula(rnd, 1+rnd.Intn(9), 4), someFormula(rnd, 1+rnd.Intn(9), 4)
		if i%2 == 0 {
			a = or(b, a, c)
		}
		for _, pair := range [][2]api.Formula{{or(a, b), a}, {or(a, b), b}, {a, and(a, b)}, {b, and(a, b)}, {or(a, b), and(b, a)}, {a, a}, {yes, a}, {a, no}} {
			is, ok := w.certain(t, pair[0], pair[1])
			if ok && !is {
				t.Fatalf("%v does not cover %v", pair[0], pair[1])
			}
			if !ok {
				large++
			}
		}
		for _, pair := range [][2]api.Formula{{a, non(a)}, {non(a), a}, {and(a, b), non(b)}} {
			is, _, e := decide.Apart(w.x, pair[0], pair[1])
			if is != (e == api.OK) || e != api.OK && e != api.ErrLimit {
				t.Fatalf("Apart(%v, %v): %v, %d", pair[0], pair[1], is, e)
			}
		}
		first, _ := w.certain(t, a, b)
		second, _ := w.certain(t, a, c)
		if both, ok := w.certain(t, a, or(b, c)); ok && both != (first && second) {
			t.Fatalf("%v covers %v: %v, %v: %v, both: %v", a, b, first, c, second, both)
		} else if both {
			joined++
		}
	}
	if joined < 500 || large > 2000 {
		t.Errorf("%d joined, %d too large", joined, large)
	}
}

// P10.8: a class covers those that inherit from it, and itself.
func TestInherits(t *testing.T) {
	rnd := rand.New(rand.NewSource(107))
	for _, count := range []int{1, 2, 3, 4, 5, 8, 13, 64} {
		w := someWorld(t, rnd, count)
		if count == 64 {
			parents := make([][]int, 64)
			for c := range 63 {
				parents[c] = []int{c + 1}
			}
			w = worldOf(t, parents...)
		}
		for c := range count {
			for d := range count {
				is, ok := w.certain(t, class(c), class(d))
				if !ok || is != w.isA(d, c) || is != w.x.Is(d, c) {
					t.Fatalf("Covers of %d and %d under %v: %v", c, d, w.parents, is)
				}
				if is, ok := w.certain(t, part(non(class(c))), part(non(class(d)))); !ok || is != w.isA(c, d) {
					t.Fatalf("Covers of parts that are not %d and %d under %v: %v", c, d, w.parents, is)
				}
			}
		}
	}
}

// randomSet returns a set of numbers that are multiples of 1/2 at the ends.
func randomSet(rnd *rand.Rand) []api.Interval {
	var l []api.Interval
	for range rnd.Intn(4) {
		lo := rnd.Intn(12) - 6
		x := api.Interval{Lo: half(lo), Hi: half(lo + 1 + rnd.Intn(4)), LoOpen: rnd.Intn(2) == 0, HiOpen: rnd.Intn(2) == 0}
		switch rnd.Intn(9) {
		case 0:
			x.Lo, x.LoOpen, x.LoInf = api.Ratio{}, false, true
		case 1:
			x.Hi, x.HiOpen, x.HiInf = api.Ratio{}, false, true
		}
		l = append(l, x)
	}
	l, _ = span.Normal(l)
	return l
}

// half returns n / 2.
func half(n int) api.Ratio {
	if n%2 == 0 {
		return ratio(n/2, 1)
	}
	return ratio(n, 2)
}

// P10.8: a set covers another one of the same attribute if it has all its numbers; each one covers the empty set.
func TestSets(t *testing.T) {
	rnd := rand.New(rand.NewSource(108))
	w := diamond(t)
	covered := 0
	for range 4000 {
		a, b := randomSet(rnd), randomSet(rnd)
		if rnd.Intn(3) == 0 {
			b, _ = span.Meet(a, b)
		}
		f, g := value(3, a...), value(3, b...)
		is := w.compared(t, f, g)
		within := true
		for n := -40; n <= 40; n++ {
			within = within && (!inside(b, ratio(n, 4)) || inside(a, ratio(n, 4)))
		}
		if want, e := span.Within(b, a); is.e != api.OK || e != api.OK || is.is != want || want != within {
			t.Fatalf("Covers(%v, %v): %v", a, b, is)
		}
		if is.is {
			covered++
		}
		if is, ok := w.certain(t, f, value(3)); !ok || !is {
			t.Fatalf("%v does not cover the empty set", a)
		}
		if is, ok := w.certain(t, f, value(4)); !ok || !is {
			t.Fatalf("%v does not cover the empty set of another attribute", a)
		}
		if is, ok := w.certain(t, f, value(4, b...)); !ok || is != (len(b) == 0) {
			t.Fatalf("%v covers %v of another attribute", a, b)
		}
	}
	if covered < 500 || covered > 3500 {
		t.Errorf("%d covered", covered)
	}
}

// P10.9: OpPart of a covers OpPart of b if a covers b, or there is no b.
func TestParts(t *testing.T) {
	rnd := rand.New(rand.NewSource(109))
	covered, not, never := 0, 0, 0
	for i := range 4000 {
		w := someWorld(t, rnd, 3)
		a, b := someFormula(rnd, 1+i%16, 4), someFormula(rnd, 1+rnd.Intn(9), 4)
		if i%4 == 0 {
			a = or(a, b)
		}
		is, ok := w.certain(t, a, b)
		inPart, sure := w.certain(t, part(a), part(b))
		_, some, e := decide.Sat(w.x, b)
		switch {
		case !ok || !sure || e != api.OK:
			continue
		case inPart != (is || !some):
			t.Fatalf("Covers(%v, %v): %v, of parts: %v", a, b, is, inPart)
		case !some:
			never++
		case is:
			covered++
		default:
			not++
		}
	}
	if covered < 500 || not < 500 || never < 300 {
		t.Errorf("%d covered, %d not, %d not satisfiable", covered, not, never)
	}
}

// ledger keeps lists that were overwritten, also behind their ends, each with a number of its own.
type ledger struct {
	last int
	kept []func() bool
}

func claim[E any](k *ledger, l []E, made func(n int) E, number func(e E) int) {
	k.last++
	n, whole := k.last, l[:cap(l)]
	for i := range whole {
		whole[i] = made(n)
	}
	k.kept = append(k.kept, func() bool {
		return !slices.ContainsFunc(whole, func(e E) bool { return number(e) != n })
	})
}

func (k *ledger) thing(t api.Thing) {
	for _, p := range t.Parts {
		k.thing(p)
	}
	itself := func(n int) int { return n }
	claim(k, t.Classes, itself, itself)
	claim(k, t.Values, func(n int) api.Value { return api.Value{Attr: n} }, func(v api.Value) int { return v.Attr })
	claim(k, t.Parts, func(n int) api.Thing { return having([]int{n}) }, func(p api.Thing) int { return p.Classes[0] })
}

// shared returns a formula in which some nodes have the same lists, with free memory behind, and whose parts need the
// same parts.
func shared(rnd *rand.Rand) api.Formula {
	set := append(make([]api.Interval, 0, 9), closed(1, 2), closed(3, 4))
	f := and(value(0, set...), class(rnd.Intn(3)), non(value(1, set...)), part(someLeaf(rnd)))
	kids := append(make([]api.Formula, 0, 9), part(f), non(part(class(rnd.Intn(3)))))
	g := of(api.OpAnd, kids...)
	return and(part(g), part(and(g, class(1))), part(and(g, value(1, set...))), of(api.OpOr, kids...), of(api.OpPart, kids[:1]...))
}

// R1 to R3: arguments stay what they were, the lists of results share no memory, and earlier calls change nothing.
func TestMemory(t *testing.T) {
	rnd := rand.New(rand.NewSource(110))
	marked, parts := 0, 0
	for i := range 600 {
		w := someWorld(t, rnd, 3)
		a, b := someAnd(rnd, 1+rnd.Intn(2)), shared(rnd)
		if i%3 == 0 {
			b = someFormula(rnd, 1+rnd.Intn(40), 7)
		}
		before := text(a) + text(b)
		var k ledger
		var first []outcome
		for round := range 2 {
			x, some, e := decide.Sat(w.x, b)
			l := []outcome{{x, some, e}}
			for _, f := range []func(x *taxon.Taxon, a, b api.Formula) (bool, api.Thing, api.Errno){decide.Covers, decide.Same, decide.Apart} {
				is, x, e := f(w.x, a, b)
				decide.Check(w.x, a, b, x)
				l = append(l, outcome{x, is, e})
			}
			if round == 0 {
				for _, o := range l {
					first = append(first, outcome{copied(o.thing), o.some, o.e})
				}
			}
			for j, o := range l {
				if !sameThing(o.thing, first[j].thing) || o.some != first[j].some || o.e != first[j].e {
					t.Fatalf("function %d for %s: %v, and then %v", j, before, first[j], o)
				}
				parts += nodes(o.thing) - 1
				k.thing(o.thing)
			}
		}
		if text(a)+text(b) != before {
			t.Fatalf("%s changed", before)
		}
		for _, ok := range k.kept {
			if !ok() {
				t.Fatalf("results for %s share memory", before)
			}
		}
		marked += len(k.kept)
	}
	if marked < 10000 || parts < 5000 {
		t.Errorf("%d lists, %d parts", marked, parts)
	}
}

// copied returns a copy that shares no memory.
func copied(t api.Thing) api.Thing {
	c := api.Thing{Classes: append([]int{}, t.Classes...), Values: append([]api.Value{}, t.Values...)}
	for _, p := range t.Parts {
		c.Parts = append(c.Parts, copied(p))
	}
	return c
}

// R3: nil and empty lists are the same, and memory behind a list does not count.
func TestEmpty(t *testing.T) {
	w := diamond(t)
	for _, op := range []int{api.OpTrue, api.OpClass, api.OpValue, api.OpAnd, api.OpOr} {
		plain := of(op)
		for _, f := range []api.Formula{{Op: op, In: []api.Interval{}, Kids: []api.Formula{}}, {Op: op, In: apart(3, 0)[:0], Kids: []api.Formula{of(-1)}[:0]}} {
			for i, pair := range [][2]api.Formula{{f, plain}, {non(f), non(plain)}, {part(f), part(plain)}, {and(part(f), part(plain)), and(part(plain))}, {and(part(class(1)), non(part(f)), non(part(plain))), and(part(class(1)), non(part(plain)))}, {or(f, no), or(plain, no)}} {
				x, some, e := decide.Sat(w.x, pair[0])
				y, other, g := decide.Sat(w.x, pair[1])
				if some != other || e != api.OK || g != api.OK || !sameThing(x, y) {
					t.Errorf("case %d of %d: %v, %v, %d", i, op, x, some, e)
				}
				if is, x, e := decide.Same(w.x, pair[0], pair[1]); !is || e != api.OK || !sameThing(x, api.Thing{}) {
					t.Errorf("case %d of %d: %v, %v, %d", i, op, is, x, e)
				}
			}
		}
	}
	bare := api.Thing{Classes: []int{}, Values: []api.Value{}, Parts: []api.Thing{}}
	if e := decide.Check(w.x, no, yes, bare); e != api.OK {
		t.Error(e)
	}
}

// P1: formulas and things that are far too large, to an end and without a panic.
func TestExtremes(t *testing.T) {
	x := diamond(t).x
	many, huge := class(1), having([]int{1})
	for range 100 {
		many, huge = or(many, many), having(nil, huge, huge)
	}
	// A formula that is a kid of itself, and a thing that is its own part.
	loop, coil := or(yes), having(nil, api.Thing{})
	loop.Kids[0], coil.Parts[0] = loop, coil
	for i, f := range []api.Formula{within(1<<16, api.OpNot, yes), star(1 << 16), many, loop, of(api.OpPart, loop), of(-1, many.Kids...), of(api.OpAnd, loop, loop)} {
		if y, some, e := decide.Sat(x, f); some || e != api.ErrLimit || !sameThing(y, api.Thing{}) {
			t.Errorf("case %d: Sat: %v, %v, %d", i, y, some, e)
		}
		for j, call := range []func(x *taxon.Taxon, a, b api.Formula) (bool, api.Thing, api.Errno){decide.Covers, decide.Same, decide.Apart} {
			for _, y := range []*taxon.Taxon{nil, x} {
				for _, pair := range [][2]api.Formula{{f, yes}, {no, f}, {f, f}} {
					if is, z, e := call(y, pair[0], pair[1]); is || e != api.ErrLimit || !sameThing(z, api.Thing{}) {
						t.Errorf("case %d: function %d: %v, %v, %d", i, j, is, z, e)
					}
				}
			}
		}
		if e, g := decide.Check(x, f, yes, api.Thing{}), decide.Check(x, yes, f, coil); e != api.ErrLimit || g != api.ErrLimit {
			t.Errorf("case %d: Check: %d, %d", i, e, g)
		}
	}
	for i, y := range []api.Thing{huge, coil, having(nil, make([]api.Thing, 1<<16)...)} {
		if e := decide.Check(x, no, yes, y); e != api.ErrLimit {
			t.Errorf("thing %d: Check: %d", i, e)
		}
	}
}

// P1 and P10.1: on each of three levels 64 alternatives need the same part, which there cannot be.
func TestManyAlternatives(t *testing.T) {
	w := worldOf(t, make([][]int, 64)...)
	var l []api.Formula
	for c := range 40 {
		l = append(l, class(c))
	}
	f := and(append(l, no)...)
	for range 3 {
		f = and(or(l[:4]...), or(l[4:8]...), or(l[8:12]...), part(f))
	}
	start := time.Now()
	if x, some, e := decide.Sat(w.x, f); some || e != api.OK {
		t.Errorf("%v, %v, %d", x, some, e)
	}
	if passed := time.Since(start); passed > 5*time.Second {
		t.Errorf("%v", passed)
	}
}

// The examples of the chapter, and those of the document that this layer decides.
func TestChapterExamples(t *testing.T) {
	w := worldOf(t, nil, []int{0})
	wheel, gear := class(0), class(1)
	if is, x, e := decide.Covers(w.x, wheel, gear); !is || e != api.OK || !sameThing(x, api.Thing{}) {
		t.Errorf("%v, %v, %d", is, x, e)
	}
	if is, x, e := decide.Covers(w.x, gear, wheel); is || e != api.OK || !sameThing(x, having([]int{0})) {
		t.Errorf("%v, %v, %d", is, x, e)
	}
	if x, some, e := decide.Sat(w.x, and(part(gear), non(part(wheel)))); some || e != api.OK || !sameThing(x, api.Thing{}) {
		t.Errorf("%v, %v, %d", x, some, e)
	}
}

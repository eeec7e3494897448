package span

import (
	"bytes"
	"iter"
	"math"
	"math/big"
	"math/rand"
	"slices"
	"testing"

	"priorart/api"
	"priorart/wire"
)

// The reference cuts the line of rationals into cells: some values, the gaps between them, and what lies outside them.
// A list whose ends are among the values has all numbers of a cell or none, so that a set is a mask, one bool for each
// cell. Numbers are big rationals, and no code is shared with the package.

func of(num, den int) api.Ratio { return api.Ratio{Num: num, Den: den} }

func value(r api.Ratio) *big.Rat { return big.NewRat(int64(r.Num), int64(r.Den)) }

func number(v *big.Rat) api.Ratio { return of(int(v.Num().Int64()), int(v.Denom().Int64())) }

// in, open, lopen and ropen are intervals between two ratios: closed, open, and open to the left or right alone.
func in(lo, hi api.Ratio) api.Interval { return api.Interval{Lo: lo, Hi: hi} }
func open(lo, hi api.Ratio) api.Interval {
	return api.Interval{Lo: lo, Hi: hi, LoOpen: true, HiOpen: true}
}
func lopen(lo, hi api.Ratio) api.Interval { return api.Interval{Lo: lo, Hi: hi, LoOpen: true} }
func ropen(lo, hi api.Ratio) api.Interval { return api.Interval{Lo: lo, Hi: hi, HiOpen: true} }

// from, above, to and below are intervals with one limit, which belongs to them or not.
func from(lo api.Ratio) api.Interval  { return api.Interval{Lo: lo, HiInf: true} }
func above(lo api.Ratio) api.Interval { return api.Interval{Lo: lo, LoOpen: true, HiInf: true} }
func to(hi api.Ratio) api.Interval    { return api.Interval{Hi: hi, LoInf: true} }
func below(hi api.Ratio) api.Interval { return api.Interval{Hi: hi, HiOpen: true, LoInf: true} }

func all() api.Interval { return api.Interval{LoInf: true, HiInf: true} }

func n(k int) api.Ratio { return of(k, 1) }

func list(l ...api.Interval) []api.Interval { return l }

// points are single numbers, 1 apart.
func points(count, first int) []api.Interval {
	var l []api.Interval
	for i := range count {
		l = append(l, in(n(first+i), n(first+i)))
	}
	return l
}

func refValidRatio(r api.Ratio) bool {
	return r.Den >= 1 && r.Den <= 1<<20 && r.Num >= -1<<40 && r.Num <= 1<<40 && number(value(r)) == r
}

func refSmall(r api.Ratio) bool {
	return refValidRatio(r) && r.Num >= -1<<30 && r.Num <= 1<<30 && r.Den <= 1<<15
}

// refHas follows the definition of the numbers of an interval.
func refHas(x api.Interval, v *big.Rat) bool {
	if !x.LoInf {
		if c := v.Cmp(value(x.Lo)); c < 0 || c == 0 && x.LoOpen {
			return false
		}
	}
	if !x.HiInf {
		if c := v.Cmp(value(x.Hi)); c > 0 || c == 0 && x.HiOpen {
			return false
		}
	}
	return true
}

// refEnd follows the definition of a valid interval for one end.
func refEnd(r api.Ratio, open, inf bool) bool {
	if inf {
		return r == of(0, 0) && !open
	}
	return refSmall(r)
}

func refValidInterval(x api.Interval) bool {
	if !refEnd(x.Lo, x.LoOpen, x.LoInf) || !refEnd(x.Hi, x.HiOpen, x.HiInf) {
		return false
	}
	return slices.Contains(mask(list(x), gridOf(x)), true)
}

// gridOf returns the values at the ends of valid ends, in order.
func gridOf(l ...api.Interval) []*big.Rat {
	grid := []*big.Rat{new(big.Rat)}
	for _, x := range l {
		if !x.LoInf {
			grid = append(grid, value(x.Lo))
		}
		if !x.HiInf {
			grid = append(grid, value(x.Hi))
		}
	}
	return sorted(grid)
}

func sorted(grid []*big.Rat) []*big.Rat {
	slices.SortFunc(grid, (*big.Rat).Cmp)
	return slices.CompactFunc(grid, func(a, b *big.Rat) bool { return a.Cmp(b) == 0 })
}

// samples returns a number of each cell; those with odd indexes are the values.
func samples(grid []*big.Rat) []*big.Rat {
	one, half := big.NewRat(1, 1), big.NewRat(1, 2)
	l := []*big.Rat{new(big.Rat).Sub(grid[0], one)}
	for i, v := range grid {
		next := new(big.Rat).Add(v, one)
		if i+1 < len(grid) {
			next.Add(v, grid[i+1]).Mul(next, half)
		}
		l = append(l, v, next)
	}
	return l
}

// mask tells which cells an interval of l has.
func mask(l []api.Interval, grid []*big.Rat) []bool {
	var m []bool
	for _, v := range samples(grid) {
		m = append(m, slices.ContainsFunc(l, func(x api.Interval) bool { return refHas(x, v) }))
	}
	return m
}

// refSet returns an interval for each run of cells of a mask.
func refSet(m []bool, grid []*big.Rat) []api.Interval {
	var set []api.Interval
	for i := 0; i < len(m); i++ {
		first := i
		for i < len(m) && m[i] {
			i++
		}
		if i == first {
			continue
		}
		last := i - 1
		x := api.Interval{LoInf: first == 0, HiInf: last == len(m)-1}
		if !x.LoInf {
			// A gap begins at the value before it, which does not belong to it; cell 2i + 1 is the value i.
			x.Lo, x.LoOpen = number(grid[(first-1)/2]), first%2 == 0
		}
		if !x.HiInf {
			x.Hi, x.HiOpen = number(grid[last/2]), last%2 == 0
		}
		set = append(set, x)
	}
	return set
}

// refValid follows the definition of a set.
func refValid(l []api.Interval) api.Errno {
	for _, x := range l {
		if !refValidInterval(x) {
			return api.ErrArg
		}
	}
	for i := range l {
		if i > 0 && !refApart(l[i-1], l[i]) {
			return api.ErrArg
		}
	}
	if len(l) > 32 {
		return api.ErrLimit
	}
	return api.OK
}

// refApart reports whether all cells of b lie behind those of a, and another cell between them.
func refApart(a, b api.Interval) bool {
	grid := gridOf(a, b)
	left, right := mask(list(a), grid), mask(list(b), grid)
	last := len(left) - 1
	for !left[last] {
		last--
	}
	return last+1 < slices.Index(right, true)
}

// outcome is a set and an error, which is compared by its fields.
type outcome struct {
	set []api.Interval
	e   api.Errno
}

func pack(set []api.Interval, e api.Errno) outcome { return outcome{set, e} }

func (o outcome) is(want outcome) bool { return o.e == want.e && slices.Equal(o.set, want.set) }

// refCells returns the intervals of the cells for which has holds; it is told which lists have a cell.
func refCells(has func(in []bool) bool, lists ...[]api.Interval) []api.Interval {
	grid := gridOf(slices.Concat(lists...)...)
	var masks [][]bool
	for _, l := range lists {
		masks = append(masks, mask(l, grid))
	}
	return refSet(joined(has, masks...), grid)
}

// joined returns the mask of the cells for which has holds.
func joined(has func(in []bool) bool, masks ...[]bool) []bool {
	var m []bool
	for i := range masks[0] {
		var in []bool
		for _, other := range masks {
			in = append(in, other[i])
		}
		m = append(m, has(in))
	}
	return m
}

func refLimited(set []api.Interval) outcome {
	if len(set) > 32 {
		return outcome{e: api.ErrLimit}
	}
	return outcome{set: set}
}

func refNormal(l []api.Interval) outcome {
	for _, x := range l {
		if !refValidInterval(x) {
			return outcome{e: api.ErrArg}
		}
	}
	return refLimited(refCells(some, l))
}

func some(in []bool) bool { return slices.Contains(in, true) }

func every(in []bool) bool { return !slices.Contains(in, false) }

func none(in []bool) bool { return !slices.Contains(in, true) }

// rest holds for what the first list has and the second one has not.
func rest(in []bool) bool { return in[0] && !in[1] }

type operation struct {
	name string
	do   func(a, b []api.Interval) ([]api.Interval, api.Errno)
	has  func(in []bool) bool
}

func operations() []operation {
	return []operation{{"Union", Union, some}, {"Meet", Meet, every}}
}

// refSimpler compares two rationals by the words of section 3.
func refSimpler(a, b *big.Rat) bool {
	if c := a.Denom().Cmp(b.Denom()); c != 0 {
		return c < 0
	}
	if c := a.Num().CmpAbs(b.Num()); c != 0 {
		return c < 0
	}
	return a.Sign() > b.Sign()
}

// refPick goes through the denominators from 1 on, until an interval has a rational with the denominator.
func refPick(set []api.Interval) api.Ratio {
	for den := 1; ; den++ {
		var best *big.Rat
		for _, x := range set {
			for num := range nearest(x, den) {
				v := big.NewRat(num, int64(den))
				if refHas(x, v) && (best == nil || refSimpler(v, best)) {
					best = v
				}
			}
		}
		if best != nil {
			return number(best)
		}
	}
}

// nearest yields 0 and the integers around den times each end of an interval. The numerator with the least absolute
// value of an interval is among them.
func nearest(x api.Interval, den int) iter.Seq[int64] {
	return func(yield func(int64) bool) {
		if !yield(0) {
			return
		}
		for _, r := range []api.Ratio{x.Lo, x.Hi} {
			for step := -2; r.Den != 0 && step <= 2; step++ {
				if !yield(int64(r.Num*den/r.Den + step)) {
					return
				}
			}
		}
	}
}

// ratios returns values in order for a grid.
func ratios(l ...api.Ratio) []*big.Rat {
	var grid []*big.Rat
	for _, r := range l {
		grid = append(grid, value(r))
	}
	return sorted(grid)
}

// masks returns all masks of the cells of a grid.
func masks(grid []*big.Rat) [][]bool {
	var l [][]bool
	cells := 2*len(grid) + 1
	for bits := range 1 << cells {
		m := make([]bool, cells)
		for i := range m {
			m[i] = bits>>i&1 == 1
		}
		l = append(l, m)
	}
	return l
}

// sets returns all sets over a grid.
func sets(grid []*big.Rat) [][]api.Interval {
	var l [][]api.Interval
	for _, m := range masks(grid) {
		l = append(l, refSet(m, grid))
	}
	return l
}

// grids are short ones: near 0, at the limits, and close to each other.
func grids() [][]*big.Rat {
	return [][]*big.Rat{
		ratios(n(-1), n(0), n(2)),
		ratios(n(-1<<30), of(1, 1<<15), n(1<<30)),
		ratios(of(-1, 1<<15-1), of(-1, 1<<15), of(1, 1<<15)),
		ratios(of(1<<30-1, 1<<15), of(1<<30-3, 1<<15), n(1<<15)),
	}
}

// intervals are all combinations of fields, most of them invalid, over some ratios.
func intervals(l ...api.Ratio) []api.Interval {
	var out []api.Interval
	for _, lo := range l {
		for _, hi := range l {
			for flags := range 16 {
				out = append(out, api.Interval{
					Lo: lo, Hi: hi, LoOpen: flags&1 > 0, HiOpen: flags&2 > 0, LoInf: flags&4 > 0, HiInf: flags&8 > 0,
				})
			}
		}
	}
	return out
}

// someMask returns a random mask, with more runs if the density is about one half.
func someMask(r *rand.Rand, grid []*big.Rat) []bool {
	m := make([]bool, 2*len(grid)+1)
	density := 1 + r.Intn(9)
	for i := range m {
		m[i] = r.Intn(10) < density
	}
	return m
}

func someSet(r *rand.Rand, grid []*big.Rat) []api.Interval { return refSet(someMask(r, grid), grid) }

// someGrid returns up to count small ratios with at most the given numbers of bits.
func someGrid(r *rand.Rand, count, numBits, denBits int) []*big.Rat {
	var grid []*big.Rat
	for range 1 + r.Intn(count) {
		v := big.NewRat(int64(r.Intn(1<<numBits+1)), 1+int64(r.Intn(1<<denBits)))
		if r.Intn(2) == 0 {
			v.Neg(v)
		}
		grid = append(grid, v)
	}
	return sorted(grid)
}

// someSets yields pairs of sets; a few of them have too many intervals.
func someSets(seed int64, count int) iter.Seq2[[]api.Interval, []api.Interval] {
	return func(yield func(a, b []api.Interval) bool) {
		r := rand.New(rand.NewSource(seed))
		for range count {
			grid := someGrid(r, 1+r.Intn(60), 1+r.Intn(30), r.Intn(16))
			if !yield(someSet(r, grid), someSet(r, grid)) {
				return
			}
		}
	}
}

// wrong are lists of which Valid gives an error, and lists of which it gives none.
func wrong() [][]api.Interval {
	return [][]api.Interval{
		nil, points(1, 0), points(32, 0), points(33, 0), points(1000, -7), list(all()),
		list(open(n(1), n(1))), list(in(n(2), n(1))), append(points(33, 0), in(n(1), n(0))), append(points(40, 0), all()),
		append(list(in(n(0), of(2, 2))), points(33, 5)...), list(api.Interval{}), list(in(n(3), n(4)), in(n(1), n(2))),
	}
}

// P4.1: cases that were worked out by hand: each condition of a valid interval.
func TestValidInterval(t *testing.T) {
	for _, c := range []struct {
		x    api.Interval
		want api.Errno
	}{
		{in(n(1), n(2)), api.OK}, {open(n(1), n(2)), api.OK}, {lopen(n(1), n(2)), api.OK}, {ropen(n(1), n(2)), api.OK},
		{in(n(2), n(2)), api.OK}, {open(n(2), n(2)), api.ErrArg}, {lopen(n(2), n(2)), api.ErrArg}, {ropen(n(2), n(2)), api.ErrArg},
		{in(n(3), n(2)), api.ErrArg}, {open(n(3), n(2)), api.ErrArg}, {in(of(1, 2), of(1, 3)), api.ErrArg}, {in(of(1, 3), of(1, 2)), api.OK},
		{in(of(-1, 2), of(-1, 3)), api.OK}, {in(of(-1, 3), of(-1, 2)), api.ErrArg}, {in(n(0), n(0)), api.OK},
		{all(), api.OK}, {from(n(1)), api.OK}, {above(n(1)), api.OK}, {to(n(1)), api.OK}, {below(n(1)), api.OK},
		{api.Interval{}, api.ErrArg}, {api.Interval{LoInf: true}, api.ErrArg}, {api.Interval{HiInf: true}, api.ErrArg},
		{api.Interval{LoInf: true, LoOpen: true, HiInf: true}, api.ErrArg}, {api.Interval{LoInf: true, HiInf: true, HiOpen: true}, api.ErrArg},
		{api.Interval{LoInf: true, HiInf: true, Lo: n(0)}, api.ErrArg}, {api.Interval{LoInf: true, HiInf: true, Hi: n(0)}, api.ErrArg},
		{api.Interval{LoInf: true, HiInf: true, Lo: of(1, 0)}, api.ErrArg}, {api.Interval{LoInf: true, HiInf: true, Hi: of(0, 1)}, api.ErrArg},
		{api.Interval{LoInf: true, Lo: n(1), Hi: n(2)}, api.ErrArg}, {api.Interval{HiInf: true, Lo: n(1), Hi: n(2)}, api.ErrArg},
		{api.Interval{LoInf: true, LoOpen: true, Hi: n(2)}, api.ErrArg}, {api.Interval{HiInf: true, HiOpen: true, Lo: n(1)}, api.ErrArg},
		{in(of(2, 4), n(1)), api.ErrArg}, {in(n(0), of(2, 2)), api.ErrArg}, {in(of(0, 2), n(1)), api.ErrArg}, {in(of(1, -2), n(1)), api.ErrArg},
		{in(n(0), of(1, 0)), api.ErrArg}, {in(of(-1, 0), n(0)), api.ErrArg}, {in(of(-1, -2), n(1)), api.ErrArg},
		{in(n(-1<<30), n(1<<30)), api.OK}, {in(n(-1<<30-1), n(0)), api.ErrArg}, {in(n(0), n(1<<30+1)), api.ErrArg},
		{from(n(1 << 30)), api.OK}, {above(n(1 << 30)), api.OK}, {to(n(-1 << 30)), api.OK}, {below(n(-1 << 30)), api.OK},
		{from(n(1<<30 + 1)), api.ErrArg}, {from(n(-1<<30 - 1)), api.ErrArg}, {to(n(-1<<30 - 1)), api.ErrArg}, {to(n(1<<30 + 1)), api.ErrArg},
		{from(of(1<<30+1, 1<<15)), api.ErrArg}, {from(of(1<<30-1, 1<<15)), api.OK}, {to(of(1-1<<30, 1<<15)), api.OK},
		{from(of(1, 1<<15)), api.OK}, {from(of(1, 1<<15+1)), api.ErrArg}, {to(of(1, 1<<15)), api.OK}, {to(of(1, 1<<15+1)), api.ErrArg},
		{in(n(1<<40), n(1<<40)), api.ErrArg}, {in(n(-1<<40), n(1<<40)), api.ErrArg}, {from(n(math.MinInt)), api.ErrArg},
		{in(of(math.MinInt, math.MinInt), n(1)), api.ErrArg}, {to(of(1, math.MaxInt)), api.ErrArg},
	} {
		if e := Valid(list(c.x)); e != c.want {
			t.Errorf("Valid(%v): %d, want %d", c.x, e, c.want)
		}
		if refValidInterval(c.x) != (c.want == api.OK) {
			t.Errorf("the reference does not agree on %v", c.x)
		}
	}
}

// P4.1: cases that were worked out by hand: the order, the distance and the number of intervals.
func TestValidSet(t *testing.T) {
	for i, c := range []struct {
		l    []api.Interval
		want api.Errno
	}{
		{nil, api.OK}, {list(), api.OK}, {points(31, 0), api.OK}, {points(32, 0), api.OK}, {points(33, 0), api.ErrLimit}, {points(5000, 0), api.ErrLimit},
		{list(in(n(1), n(2)), in(n(3), n(4))), api.OK}, {list(in(n(3), n(4)), in(n(1), n(2))), api.ErrArg},
		{list(ropen(n(1), n(2)), lopen(n(2), n(3))), api.OK}, {list(ropen(n(1), n(2)), in(n(2), n(3))), api.ErrArg},
		{list(in(n(1), n(2)), lopen(n(2), n(3))), api.ErrArg}, {list(in(n(1), n(2)), in(n(2), n(3))), api.ErrArg},
		{list(ropen(n(1), n(2)), in(n(2), n(2))), api.ErrArg}, {list(ropen(n(1), n(2)), in(n(2), n(2)), lopen(n(2), n(3))), api.ErrArg},
		{list(in(n(1), n(3)), in(n(2), n(4))), api.ErrArg}, {list(in(n(1), n(9)), in(n(2), n(3))), api.ErrArg}, {list(in(n(1), n(2)), in(n(1), n(2))), api.ErrArg},
		{list(in(n(1), n(1)), lopen(n(1), n(2))), api.ErrArg}, {list(in(n(1), n(1)), in(of(32769, 32768), n(2))), api.OK},
		{list(below(n(0)), above(n(0))), api.OK}, {list(to(n(0)), above(n(0))), api.ErrArg}, {list(below(n(0)), from(n(0))), api.ErrArg},
		{list(all(), all()), api.ErrArg}, {list(all(), in(n(1), n(2))), api.ErrArg}, {list(in(n(1), n(2)), all()), api.ErrArg},
		{list(from(n(0)), in(n(1), n(2))), api.ErrArg}, {list(from(n(0)), from(n(1))), api.ErrArg}, {list(in(n(-9), n(-8)), to(n(0))), api.ErrArg},
		{list(to(n(0)), to(n(1))), api.ErrArg}, {list(from(n(1<<30)), in(n(1<<30), n(1<<30))), api.ErrArg},
		{list(in(of(1, 3), of(1, 3)), in(of(10923, 32768), of(1, 2))), api.OK}, {list(in(of(10923, 32768), of(1, 2)), in(of(1, 3), of(1, 3))), api.ErrArg},
		{list(in(n(1), n(2)), open(n(3), n(3))), api.ErrArg}, {list(open(n(3), n(3)), in(n(4), n(5))), api.ErrArg},
		{append(points(33, 0), in(n(33), n(32))), api.ErrArg}, {append(points(33, 0), in(n(32), n(40))), api.ErrArg}, {append(points(33, 0), points(33, 0)...), api.ErrArg},
		{append(list(in(of(2, 2), n(2))), points(33, 5)...), api.ErrArg}, {append(points(33, 0), from(n(33))), api.ErrLimit},
	} {
		if e := Valid(c.l); e != c.want {
			t.Errorf("case %d: %d, want %d", i, e, c.want)
		}
		if e := refValid(c.l); e != c.want {
			t.Errorf("case %d: the reference gives %d", i, e)
		}
	}
}

// P4.1: all combinations of fields, alone and in pairs, against the reference.
func TestValidReference(t *testing.T) {
	for _, x := range intervals(of(0, 0), n(0), n(1), of(1, 2), of(-1, 3), of(2, 4), n(1<<30), n(1<<30+1), of(3, 1<<15), of(3, 1<<15+1), n(-1<<30), n(-1<<30-1)) {
		if e, want := Valid(list(x)), refValid(list(x)); e != want {
			t.Fatalf("Valid(%v): %d, want %d", x, e, want)
		}
	}
	l := intervals(of(0, 0), n(0), of(1, 2), n(1))
	valid := slices.DeleteFunc(slices.Clone(l), func(x api.Interval) bool { return !refValidInterval(x) })
	if len(valid) != 28 {
		t.Errorf("%d of the intervals are valid", len(valid))
	}
	for _, x := range l {
		for _, y := range l {
			want := api.ErrArg
			if slices.Contains(valid, x) && slices.Contains(valid, y) && refApart(x, y) {
				want = api.OK
			}
			if e := Valid(list(x, y)); e != want {
				t.Fatalf("Valid(%v, %v): %d, want %d", x, y, e, want)
			}
		}
	}
	for _, x := range valid {
		for _, y := range valid {
			for _, z := range valid {
				if e, want := Valid(list(x, y, z)), refApart(x, y) && refApart(y, z); (e == api.OK) != want {
					t.Fatalf("Valid(%v, %v, %v): %d", x, y, z, e)
				}
			}
		}
	}
}

// P4.1: every field of every interval counts, in valid lists and in any other ones.
func TestEqual(t *testing.T) {
	l := list(in(n(1), n(2)), open(n(3), n(4)), from(n(5)))
	if !Equal(l, slices.Clone(l)) || !Equal(nil, nil) || !Equal(nil, list()) || !Equal(list(), nil) {
		t.Error("equal lists")
	}
	for _, other := range [][]api.Interval{nil, l[:1], l[:2], l[1:], append(slices.Clone(l), l[2]), list(l[1], l[0], l[2])} {
		if Equal(l, other) || Equal(other, l) {
			t.Errorf("%v is equal to %v", l, other)
		}
	}
	for i := range l {
		for _, change := range []func(x *api.Interval){
			func(x *api.Interval) { x.Lo.Num++ }, func(x *api.Interval) { x.Lo.Den++ },
			func(x *api.Interval) { x.Hi.Num++ }, func(x *api.Interval) { x.Hi.Den++ },
			func(x *api.Interval) { x.LoOpen = !x.LoOpen }, func(x *api.Interval) { x.HiOpen = !x.HiOpen },
			func(x *api.Interval) { x.LoInf = !x.LoInf }, func(x *api.Interval) { x.HiInf = !x.HiInf },
		} {
			other := slices.Clone(l)
			change(&other[i])
			if Equal(l, other) || Equal(other, l) || !Equal(other, slices.Clone(other)) {
				t.Errorf("%v and %v", l, other)
			}
		}
	}
	if Equal(list(in(n(1), n(2))), list(in(of(2, 2), n(2)))) || !Equal(points(40, 0), points(40, 0)) || Equal(points(40, 0), points(41, 0)) {
		t.Error("lists that are no sets")
	}
}

// P4.2: cases that were worked out by hand: the ends, numbers beyond all small ratios, ratios and intervals that are not valid.
func TestHas(t *testing.T) {
	for i, c := range []struct {
		l    []api.Interval
		r    api.Ratio
		want bool
	}{
		{nil, n(0), false}, {list(all()), n(0), true}, {list(all()), of(0, 0), false}, {list(all()), of(2, 4), false}, {list(all()), of(1, -1), false},
		{list(in(n(1), n(2))), n(1), true}, {list(in(n(1), n(2))), n(2), true}, {list(in(n(1), n(2))), of(3, 2), true}, {list(in(n(1), n(2))), of(6, 4), false},
		{list(in(n(1), n(2))), n(0), false}, {list(in(n(1), n(2))), n(3), false}, {list(in(n(1), n(2))), of(1<<20-1, 1<<20), false}, {list(in(n(1), n(2))), of(1<<20+1, 1<<20), true},
		{list(open(n(1), n(2))), n(1), false}, {list(open(n(1), n(2))), n(2), false}, {list(open(n(1), n(2))), of(1<<21-1, 1<<20), true},
		{list(lopen(n(1), n(2))), n(1), false}, {list(lopen(n(1), n(2))), n(2), true}, {list(ropen(n(1), n(2))), n(1), true}, {list(ropen(n(1), n(2))), n(2), false},
		{list(all()), n(1 << 40), true}, {list(all()), n(-1 << 40), true}, {list(all()), of(1, 1<<20), true}, {list(all()), n(1<<40 + 1), false}, {list(all()), n(-1<<40 - 1), false}, {list(all()), of(1, 1<<20+1), false},
		{list(from(n(1 << 30))), n(1 << 40), true}, {list(above(n(1 << 30))), n(1 << 30), false}, {list(above(n(1 << 30))), n(1<<30 + 1), true}, {list(from(n(1 << 30))), n(-1 << 40), false},
		{list(to(n(-1 << 30))), n(-1 << 40), true}, {list(below(n(-1 << 30))), n(-1 << 30), false}, {list(to(n(-1 << 30))), n(1 << 40), false}, {list(to(n(1 << 30))), n(1<<30 + 1), false},
		{list(in(n(5), n(6)), in(n(1), n(2)), in(n(1), n(9))), n(8), true}, {list(in(n(5), n(6)), in(n(1), n(2))), n(1), true}, {list(in(n(5), n(6)), in(n(1), n(2))), n(3), false},
		{list(in(n(0), of(4, 2)), in(n(5), n(6))), n(1), false}, {list(in(n(0), of(4, 2)), in(n(5), n(6))), n(5), true}, {list(in(n(5), n(6)), in(n(0), of(4, 2))), n(5), true},
		{list(in(n(0), n(1<<30+1))), n(1), false}, {list(open(n(1), n(1))), n(1), false}, {list(lopen(n(1), n(1))), n(1), false}, {list(in(n(2), n(1))), n(1), false},
		{list(api.Interval{LoInf: true, LoOpen: true, HiInf: true}), n(1), false}, {list(api.Interval{LoInf: true, Lo: n(0), HiInf: true}), n(1), false},
		{list(api.Interval{LoInf: true, HiOpen: true, HiInf: true}), n(1), false}, {list(api.Interval{LoInf: true, Hi: n(5), HiInf: true}), n(1), false},
		{list(api.Interval{}), n(0), false}, {list(api.Interval{}), of(0, 0), false}, {points(33, 0), n(32), true}, {points(33, 0), n(33), false},
		{list(all()), of(math.MinInt, 1), false}, {list(all()), of(1, math.MinInt), false}, {list(all()), of(math.MinInt, math.MinInt), false},
	} {
		if got := Has(c.l, c.r); got != c.want {
			t.Errorf("case %d: Has(%v, %v): %v", i, c.l, c.r, got)
		}
	}
}

// P4.2: all combinations of fields, in pairs, and numbers near their ends, against the reference.
func TestHasReference(t *testing.T) {
	l := intervals(of(0, 0), n(0), of(1, 2), n(1))
	var numbers []api.Ratio
	for num := -5; num <= 9; num++ {
		for _, den := range []int{0, 1, 2, 4} {
			numbers = append(numbers, of(num, den))
		}
	}
	numbers = append(numbers, n(1<<40), n(-1<<40), of(1<<19-1, 1<<20), of(1<<19+1, 1<<20))
	for i, x := range l {
		for k, r := range numbers {
			want := refValidRatio(r) && refValidInterval(x) && refHas(x, value(r))
			if got := Has(list(x), r); got != want {
				t.Fatalf("Has(%v, %v): %v", x, r, got)
			}
			y := l[(i*37+k)%len(l)]
			want = want || refValidRatio(r) && refValidInterval(y) && refHas(y, value(r))
			if got := Has(list(y, x), r); got != want {
				t.Fatalf("Has(%v and %v, %v): %v", y, x, r, got)
			}
		}
	}
}

// P4.3: cases that were worked out by hand.
func TestNormal(t *testing.T) {
	arg, limit := outcome{e: api.ErrArg}, outcome{e: api.ErrLimit}
	descending := points(40, 0)
	slices.Reverse(descending)
	for i, c := range []struct {
		l    []api.Interval
		want outcome
	}{
		{nil, outcome{}}, {list(all()), outcome{set: list(all())}}, {list(all(), all(), in(n(1), n(2))), outcome{set: list(all())}},
		{list(in(n(3), n(4)), in(n(1), n(2))), outcome{set: list(in(n(1), n(2)), in(n(3), n(4)))}},
		{list(in(n(1), n(2)), in(n(2), n(3))), outcome{set: list(in(n(1), n(3)))}}, {list(ropen(n(1), n(2)), lopen(n(2), n(3))), outcome{set: list(ropen(n(1), n(2)), lopen(n(2), n(3)))}},
		{list(lopen(n(2), n(3)), in(n(2), n(2)), ropen(n(1), n(2))), outcome{set: list(in(n(1), n(3)))}}, {list(in(n(1), n(9)), in(n(2), n(3)), open(n(1), n(9))), outcome{set: list(in(n(1), n(9)))}},
		{list(open(n(1), n(2)), in(n(1), n(1)), in(n(2), n(2))), outcome{set: list(in(n(1), n(2)))}}, {list(open(n(1), n(2)), open(n(1), n(2))), outcome{set: list(open(n(1), n(2)))}},
		{list(above(n(0)), below(n(0))), outcome{set: list(below(n(0)), above(n(0)))}}, {list(from(n(0)), below(n(0))), outcome{set: list(all())}}, {list(from(n(1<<30)), below(n(-1<<30))), outcome{set: list(below(n(-1<<30)), from(n(1<<30)))}},
		{points(33, 0), limit}, {append(points(33, 0), in(n(3), n(4))), outcome{set: append(append(points(3, 0), in(n(3), n(4))), points(28, 5)...)}}, {append(points(500, 0), all()), outcome{set: list(all())}},
		{descending, limit}, {append(slices.Clone(descending), in(n(0), n(8))), outcome{set: append(list(in(n(0), n(8))), points(31, 9)...)}}, {append(slices.Clone(descending), in(n(0), n(7))), limit},
		{list(open(n(1), n(1))), arg}, {list(all(), in(n(2), n(1))), arg}, {append(points(33, 0), in(n(2), n(1))), arg}, {list(in(of(2, 2), n(3)), all()), arg}, {list(api.Interval{}), arg},
	} {
		if got := pack(Normal(c.l)); !got.is(c.want) {
			t.Errorf("case %d: %v, want %v", i, got, c.want)
		}
	}
}

// P4.3: pairs and triples of intervals, and random lists of them, against the reference; sets stay what they are.
func TestNormalReference(t *testing.T) {
	check := func(l []api.Interval) {
		if got, want := pack(Normal(l)), refNormal(l); !got.is(want) || got.e == api.OK && Valid(got.set) != api.OK {
			t.Fatalf("Normal(%v): %v, want %v", l, got, want)
		}
	}
	l := intervals(of(0, 0), n(0), of(1, 2), n(1))
	for _, x := range l {
		check(list(x))
	}
	l = slices.DeleteFunc(l, func(x api.Interval) bool { return !refValidInterval(x) })
	for _, x := range l {
		for _, y := range l {
			check(list(x, y))
			check(list(x, y, l[7]))
		}
	}
	for _, grid := range grids() {
		for _, set := range sets(grid) {
			if got := pack(Normal(set)); !got.is(outcome{set: set}) {
				t.Fatalf("Normal(%v): %v", set, got)
			}
		}
	}
	r := rand.New(rand.NewSource(1))
	for a, b := range someSets(2, 1500) {
		both := slices.Concat(a, b)
		r.Shuffle(len(both), func(i, k int) { both[i], both[k] = both[k], both[i] })
		check(both)
		if len(both) > 3 {
			both[r.Intn(len(both))].Lo.Den = r.Intn(3)
			check(both)
		}
	}
}

// P4.4: cases that were worked out by hand.
func TestOperations(t *testing.T) {
	a, b := list(ropen(n(1), n(4)), lopen(n(6), n(9))), list(lopen(n(2), n(6)), in(n(8), n(12)))
	for i, c := range []struct {
		got  outcome
		want []api.Interval
	}{
		{pack(Union(a, b)), list(in(n(1), n(12)))}, {pack(Meet(a, b)), list(open(n(2), n(4)), in(n(8), n(9)))}, {pack(Not(a)), list(below(n(1)), in(n(4), n(6)), above(n(9)))},
		{pack(Union(a, nil)), a}, {pack(Meet(a, nil)), nil}, {pack(Union(nil, nil)), nil}, {pack(Meet(nil, nil)), nil}, {pack(Not(nil)), list(all())}, {pack(Not(list(all()))), nil},
		{pack(Union(a, list(all()))), list(all())}, {pack(Meet(a, list(all()))), a}, {pack(Union(a, a)), a}, {pack(Meet(b, b)), b},
		{pack(Union(list(ropen(n(1), n(2))), list(in(n(2), n(3))))), list(in(n(1), n(3)))}, {pack(Union(list(ropen(n(1), n(2))), list(lopen(n(2), n(3))))), list(ropen(n(1), n(2)), lopen(n(2), n(3)))},
		{pack(Meet(list(in(n(1), n(2))), list(in(n(2), n(3))))), list(in(n(2), n(2)))}, {pack(Meet(list(ropen(n(1), n(2))), list(in(n(2), n(3))))), nil},
		{pack(Not(list(ropen(n(1), n(2))))), list(below(n(1)), from(n(2)))}, {pack(Not(list(in(n(5), n(5))))), list(below(n(5)), above(n(5)))}, {pack(Not(list(below(n(5)), above(n(5))))), list(in(n(5), n(5)))},
		{pack(Not(list(from(n(1 << 30))))), list(below(n(1 << 30)))}, {pack(Not(list(to(n(-1 << 30))))), list(above(n(-1 << 30)))}, {pack(Union(list(to(n(0))), list(above(n(0))))), list(all())},
		{pack(Union(points(16, 0), points(16, 100))), append(points(16, 0), points(16, 100)...)}, {pack(Union(points(32, 0), list(all()))), list(all())}, {pack(Meet(points(32, 0), points(32, 31))), points(1, 31)},
	} {
		if !c.got.is(outcome{set: c.want}) {
			t.Errorf("case %d: %v, want %v", i, c.got, c.want)
		}
	}
}

// P4.4: results with 32 and with 33 intervals. Within returns none, so that it has no limit.
func TestOperationLimits(t *testing.T) {
	gaps, e := Not(points(31, 0))
	if e != api.OK || len(gaps) != 32 {
		t.Fatal("Not of 31 points:", gaps, e)
	}
	wide := append(points(30, 100), in(n(-10), n(50)))
	slices.SortFunc(wide, func(a, b api.Interval) int { return a.Lo.Num - b.Lo.Num })
	for i, c := range []struct {
		got  outcome
		want int
	}{
		{pack(Union(points(16, 0), points(16, 100))), 32}, {pack(Union(points(16, 0), points(17, 100))), -1}, {pack(Union(points(32, 0), points(32, 100))), -1}, {pack(Union(points(32, 0), points(32, 0))), 32},
		{pack(Meet(list(in(n(-1), n(31))), gaps)), 32}, {pack(Meet(gaps, wide)), -1}, {pack(Meet(wide, gaps)), -1}, {pack(Not(gaps)), 31},
		{pack(Not(points(32, 0))), -1}, {pack(Not(append(points(31, 0), from(n(40))))), 32}, {pack(Not(append(list(to(n(-5))), points(31, 0)...))), 32},
	} {
		want := api.OK
		if c.want < 0 {
			want, c.want = api.ErrLimit, 0
		}
		if c.got.e != want || len(c.got.set) != c.want {
			t.Errorf("case %d: %d intervals and %d, want %d and %d", i, len(c.got.set), c.got.e, c.want, want)
		}
	}
	for i, c := range []struct {
		a, b []api.Interval
		want bool
	}{{list(all()), points(32, 0), false}, {wide, gaps, false}, {gaps, wide, false}, {points(32, 0), points(32, 100), false}, {points(32, 0), list(all()), true}, {gaps, gaps, true}, {points(32, 0), points(32, 0), true}} {
		if got, e := Within(c.a, c.b); got != c.want || e != api.OK {
			t.Errorf("Within, case %d: %v and %d", i, got, e)
		}
	}
}

// P4.4 and P4.5: the first error of the arguments, and nothing else.
func TestErrors(t *testing.T) {
	for _, a := range wrong() {
		first := refValid(a)
		if got := pack(Not(a)); first != api.OK && !got.is(outcome{e: first}) {
			t.Errorf("Not(%v): %v, want %d", a, got, first)
		}
		if r, ok, e := Pick(a); first != api.OK && (r != of(0, 0) || ok || e != first) {
			t.Errorf("Pick(%v): %v, %v and %d, want %d", a, r, ok, e, first)
		}
		for _, b := range wrong() {
			want := first
			if want == api.OK {
				want = refValid(b)
			}
			if want == api.OK {
				continue
			}
			for _, o := range operations() {
				if got := pack(o.do(a, b)); !got.is(outcome{e: want}) {
					t.Errorf("%s(%v, %v): %v, want %d", o.name, a, b, got, want)
				}
			}
			if got, e := Within(a, b); got || e != want {
				t.Errorf("Within(%v, %v): %v and %d, want %d", a, b, got, e, want)
			}
		}
	}
}

// checkMasks compares all operations on the sets of two masks with the sets of the masks of the results.
func checkMasks(t *testing.T, grid []*big.Rat, m, k []bool) (counts [2]int) {
	t.Helper()
	a, b := refSet(m, grid), refSet(k, grid)
	want := func(set []api.Interval, lists ...[]api.Interval) outcome {
		if slices.ContainsFunc(lists, func(l []api.Interval) bool { return len(l) > 32 }) {
			return outcome{e: api.ErrLimit}
		}
		return refLimited(set)
	}
	for i, o := range operations() {
		set := refSet(joined(o.has, m, k), grid)
		if got := pack(o.do(a, b)); !got.is(want(set, a, b)) {
			t.Fatalf("%s(%v, %v): %v, want %v", o.name, a, b, got, want(set, a, b))
		}
		if len(a) <= 32 && len(b) <= 32 && len(set) > 32 {
			counts[i]++
		}
	}
	if got, not := pack(Not(a)), refSet(joined(none, m), grid); !got.is(want(not, a)) {
		t.Fatalf("Not(%v): %v, want %v", a, got, want(not, a))
	}
	left := joined(rest, m, k)
	if got, e := Within(a, b); e != want(nil, a, b).e || got != (e == api.OK && !slices.Contains(left, true)) {
		t.Fatalf("Within(%v, %v): %v and %d", a, b, got, e)
	}
	return counts
}

// P4.4: all pairs of sets over short grids, and random pairs, against the reference.
func TestOperationsReference(t *testing.T) {
	for _, grid := range grids() {
		l := masks(grid)
		for _, m := range l {
			if !slices.Equal(mask(refSet(m, grid), grid), m) {
				t.Fatalf("the reference loses cells of %v", m)
			}
			for _, k := range l {
				checkMasks(t, grid, m, k)
			}
		}
	}
	r := rand.New(rand.NewSource(3))
	var limits [2]int
	for range 4000 {
		grid := someGrid(r, 1+r.Intn(150), 1+r.Intn(30), r.Intn(16))
		counts := checkMasks(t, grid, someMask(r, grid), someMask(r, grid))
		limits[0], limits[1] = limits[0]+counts[0], limits[1]+counts[1]
	}
	if min(limits[0], limits[1]) < 20 {
		t.Errorf("few of the random sets lead to too many intervals: %v", limits)
	}
}

// P4.5: cases that were worked out by hand: each step of simplicity, ends of each kind, several intervals, the limits.
func TestPick(t *testing.T) {
	for i, c := range []struct {
		set  []api.Interval
		want api.Ratio
	}{
		{list(all()), n(0)}, {list(below(n(-7))), n(-8)}, {list(to(n(-7))), n(-7)}, {list(above(n(7))), n(8)}, {list(from(n(7))), n(7)}, {list(above(n(-7))), n(0)}, {list(below(n(7))), n(0)},
		{list(above(n(0))), n(1)}, {list(below(n(0))), n(-1)}, {list(from(of(1, 2))), n(1)}, {list(to(of(-1, 2))), n(-1)}, {list(below(n(0)), above(n(0))), n(1)},
		{list(lopen(of(1, 3), of(1, 2))), of(1, 2)}, {list(open(of(1, 3), of(1, 2))), of(2, 5)}, {list(ropen(of(1, 3), of(1, 2))), of(1, 3)}, {list(in(of(1, 3), of(1, 2))), of(1, 2)},
		{list(open(n(3), n(4))), of(7, 2)}, {list(in(n(3), n(4))), n(3)}, {list(lopen(n(3), n(4))), n(4)}, {list(in(n(-4), n(-3))), n(-3)}, {list(ropen(n(-4), n(-3))), n(-4)}, {list(open(n(-4), n(-3))), of(-7, 2)},
		{list(in(n(-1), n(1))), n(0)}, {list(open(n(-1), n(1))), n(0)}, {list(in(n(5), n(5))), n(5)}, {list(in(of(-3, 7), of(-3, 7))), of(-3, 7)}, {list(in(n(0), n(0))), n(0)},
		{list(in(n(-5), n(-3)), in(n(4), n(9))), n(-3)}, {list(in(n(-4), n(-3)), in(n(3), n(9))), n(3)}, {list(in(n(-9), n(-9)), in(of(1, 2), of(1, 2))), n(-9)},
		{list(in(of(-1, 2), of(-1, 2)), in(of(1, 2), of(1, 2))), of(1, 2)}, {list(in(of(-1, 2), of(-1, 2)), in(of(2, 3), of(2, 3))), of(-1, 2)}, {list(open(n(3), n(4)), open(n(8), n(10))), n(9)},
		{list(below(n(-2)), above(n(2))), n(3)}, {list(to(n(-2)), above(n(2))), n(-2)}, {list(open(n(0), n(1)), from(n(1<<30))), n(1 << 30)}, {list(to(n(-1<<30)), open(n(0), n(1))), n(-1 << 30)},
		{list(above(n(1 << 30))), n(1<<30 + 1)}, {list(below(n(-1 << 30))), n(-1<<30 - 1)}, {list(from(n(1 << 30))), n(1 << 30)}, {list(to(n(-1 << 30))), n(-1 << 30)}, {list(below(n(-1<<30)), above(n(1<<30))), n(1<<30 + 1)},
		{list(open(of(1, 1<<15), of(1, 1<<15-1))), of(2, 1<<16-1)}, {list(open(of(-1, 1<<15-1), of(-1, 1<<15))), of(-2, 1<<16-1)}, {list(open(n(1<<30-1), n(1<<30))), of(1<<31-1, 2)},
		{list(above(of(1<<30-1, 1<<15))), n(1 << 15)}, {list(lopen(of(1, 1<<15), of(1, 1<<15-1))), of(1, 1<<15-1)}, {list(in(of(1, 1<<15), of(1, 1<<15))), of(1, 1<<15)}, {points(32, -40), n(-9)},
	} {
		if r, ok, e := Pick(c.set); r != c.want || !ok || e != api.OK {
			t.Errorf("case %d: Pick(%v): %v, %v and %d, want %v", i, c.set, r, ok, e, c.want)
		}
	}
	for _, set := range [][]api.Interval{nil, list()} {
		if r, ok, e := Pick(set); r != of(0, 0) || ok || e != api.OK {
			t.Errorf("Pick of the empty set: %v, %v and %d", r, ok, e)
		}
	}
}

// P4.5: all sets over short grids, and random ones, against the rationals in the order of their simplicity.
func TestPickReference(t *testing.T) {
	check := func(set []api.Interval) {
		if len(set) == 0 || len(set) > 32 {
			return
		}
		if r, ok, e := Pick(set); r != refPick(set) || !ok || e != api.OK {
			t.Fatalf("Pick(%v): %v, %v and %d, want %v", set, r, ok, e, refPick(set))
		}
	}
	for _, grid := range [][]*big.Rat{ratios(n(-1), n(0), n(2)), ratios(of(-5, 3), of(1, 2), n(2)), ratios(of(-2, 7), of(-1, 4), of(1, 4)), ratios(n(-1<<30), n(-1), n(1<<30))} {
		for _, set := range sets(grid) {
			check(set)
		}
	}
	for a, b := range someSets(4, 700) {
		check(a)
		check(b)
	}
	r := rand.New(rand.NewSource(5))
	for range 1000 {
		v := someGrid(r, 1, 30, 9)[0]
		w := new(big.Rat).Add(v, big.NewRat(1, 1+int64(r.Intn(1<<6))))
		if lo, hi := number(v), number(w); refSmall(lo) && refSmall(hi) {
			check(list(open(lo, hi)))
			check(list(lopen(lo, hi)))
			check(list(ropen(lo, hi)))
		}
	}
}

// refEncode writes by the words of the chapter.
func refEncode(l []api.Interval) []byte {
	var w wire.Writer
	w.Int(len(l))
	for _, x := range l {
		for _, k := range []int{x.Lo.Num, x.Lo.Den, x.Hi.Num, x.Hi.Den} {
			w.Int(k)
		}
		for _, b := range []bool{x.LoOpen, x.HiOpen, x.LoInf, x.HiInf} {
			w.Bool(b)
		}
	}
	return w.Done()
}

// P4.6: bytes that were worked out by hand, and lists of every kind; the encodings of sets alone are decoded.
func TestEncode(t *testing.T) {
	for _, c := range []struct {
		l    []api.Interval
		want []byte
	}{
		{nil, []byte{0}}, {list(), []byte{0}}, {list(lopen(of(1, 3), of(1, 2))), []byte{2, 2, 6, 2, 4, 1, 0, 0, 0}},
		{list(below(n(-1)), above(n(64))), []byte{4, 0, 0, 1, 2, 0, 1, 1, 0, 128, 1, 2, 0, 0, 1, 0, 0, 1}},
	} {
		if got := Encode(c.l); !bytes.Equal(got, c.want) {
			t.Errorf("Encode(%v): %v, want %v", c.l, got, c.want)
		}
	}
	check := func(l []api.Interval) {
		b := Encode(l)
		if !bytes.Equal(b, refEncode(l)) {
			t.Fatalf("Encode(%v): %v, want %v", l, b, refEncode(l))
		}
		want := outcome{set: l}
		if refValid(l) != api.OK {
			want = outcome{e: api.ErrForm}
		}
		if got := pack(Decode(b)); !got.is(want) {
			t.Fatalf("Decode(%v): %v, want %v", b, got, want)
		}
	}
	for _, l := range wrong() {
		check(l)
	}
	for _, x := range intervals(of(0, 0), n(0), of(1, 2), of(2, 2), n(1<<30+1), of(math.MinInt, math.MaxInt)) {
		check(list(x))
		check(list(in(n(-3), n(-2)), x))
	}
	for _, grid := range grids() {
		for _, set := range sets(grid) {
			check(set)
		}
	}
	for a, b := range someSets(6, 500) {
		check(a)
		check(b)
	}
}

// P4.6: what is not the encoding of a set is malformed, also where the wire would want more bytes.
func TestDecode(t *testing.T) {
	var huge, negative, many wire.Writer
	huge.Int(math.MaxInt)
	negative.Int(-1)
	many.Int(33)
	for _, b := range [][]byte{
		nil, {1}, {128}, {128, 0}, {0, 0}, {2}, {2, 2, 2, 4, 2, 0, 0, 0}, {2, 2, 2, 4, 2, 0, 0, 2, 0}, {2, 2, 2, 4, 2, 0, 0, 0, 0, 0},
		{2, 2, 2, 130, 0, 2, 0, 0, 0, 0}, {2, 0, 0, 0, 0, 0, 0, 1, 1, 7}, {2, 0, 0, 0, 0, 0, 0, 1}, {255, 255, 255, 255, 255, 255, 255, 255, 255, 2},
		huge.Done(), negative.Done(), many.Done(), refEncode(points(33, 0)), append(huge.Done(), 1, 2, 3), bytes.Repeat([]byte{255}, 1000), make([]byte, 1000),
	} {
		if got := pack(Decode(b)); !got.is(outcome{e: api.ErrForm}) {
			t.Errorf("Decode(%v): %v", b, got)
		}
	}
	if got := pack(Decode([]byte{2, 0, 0, 0, 0, 0, 0, 1, 1})); !got.is(outcome{set: list(all())}) {
		t.Error("all rationals:", got)
	}
	checkSpoiled(t, refEncode(points(32, 0)))
	for a, b := range someSets(7, 20) {
		checkSpoiled(t, refEncode(a))
		checkSpoiled(t, refEncode(b))
	}
}

// checkSpoiled cuts an encoding off, makes it longer and changes each of its bytes: what is decoded has the bytes as its encoding.
func checkSpoiled(t *testing.T, b []byte) {
	t.Helper()
	for end := range b {
		if got := pack(Decode(b[:end])); !got.is(outcome{e: api.ErrForm}) {
			t.Fatalf("Decode of a part of %v: %v", b, got)
		}
	}
	if got := pack(Decode(append(slices.Clone(b), 0))); !got.is(outcome{e: api.ErrForm}) {
		t.Fatalf("Decode of more than %v: %v", b, got)
	}
	for i := range b {
		for _, c := range []byte{0, 1, 2, 3, 4, 66, 127, 128, 129, 255} {
			spoiled := slices.Clone(b)
			spoiled[i] = c
			got := pack(Decode(spoiled))
			if got.e != api.OK && !got.is(outcome{e: api.ErrForm}) {
				t.Fatalf("Decode(%v): %v", spoiled, got)
			}
			if got.e == api.OK && (refValid(got.set) != api.OK || !bytes.Equal(refEncode(got.set), spoiled)) {
				t.Fatalf("Decode(%v): %v", spoiled, got)
			}
		}
	}
}

// P4.6: all encodings of one interval with small fields, spelt out byte by byte.
func TestDecodeEvery(t *testing.T) {
	count := 0
	for numbers := range 5 * 4 * 5 * 4 {
		for flags := range 3 * 3 * 3 * 3 {
			b := []byte{2, byte(numbers % 5), byte(numbers / 5 % 4), byte(numbers / 20 % 5), byte(numbers / 100), byte(flags % 3), byte(flags / 3 % 3), byte(flags / 9 % 3), byte(flags / 27)}
			got := pack(Decode(b))
			if got.e == api.OK {
				count++
			}
			if got.e != api.OK && !got.is(outcome{e: api.ErrForm}) || got.e == api.OK && !bytes.Equal(refEncode(got.set), b) {
				t.Fatalf("Decode(%v): %v", b, got)
			}
		}
	}
	// With the Dens 0 and 1, and Nums from -2 to 2: the whole line, 10 with one limit at each side, 5 points, 10 pairs with 4 forms.
	if count != 1+10+10+5+40 {
		t.Errorf("%d sets", count)
	}
}

// P4.7: the laws, for all triples of sets over two values and for random ones, as far as no result has too many intervals.
func TestLaws(t *testing.T) {
	l := sets(ratios(of(-1, 2), n(3)))
	for _, a := range l {
		for _, b := range l {
			for _, c := range l {
				checkLaws(t, a, b, c)
			}
		}
	}
	r := rand.New(rand.NewSource(8))
	for range 1500 {
		grid := someGrid(r, 1+r.Intn(25), 1+r.Intn(30), r.Intn(16))
		checkLaws(t, someSet(r, grid), someSet(r, grid), someSet(r, grid))
	}
}

func checkLaws(t *testing.T, a, b, c []api.Interval) {
	t.Helper()
	// then applies an operation to a result, if there is one.
	then := func(o outcome, do func(l []api.Interval) outcome) outcome {
		if o.e != api.OK {
			return o
		}
		return do(o.set)
	}
	same := func(law string, x, y outcome) {
		if x.e == api.OK && y.e == api.OK && !Equal(x.set, y.set) {
			t.Fatalf("%s: %v and %v, for %v, %v and %v", law, x, y, a, b, c)
		}
	}
	not := func(l []api.Interval) outcome { return pack(Not(l)) }
	for _, o := range operations() {
		do := func(x, y []api.Interval) outcome { return pack(o.do(x, y)) }
		ab, ba := do(a, b), do(b, a)
		if !ab.is(ba) {
			t.Fatalf("%s is not commutative for %v and %v", o.name, a, b)
		}
		same(o.name+" is associative", then(ab, func(l []api.Interval) outcome { return do(l, c) }), then(do(b, c), func(l []api.Interval) outcome { return do(a, l) }))
	}
	same("Not of Not", then(not(a), not), outcome{set: a})
	nots := then(not(a), func(x []api.Interval) outcome {
		return then(not(b), func(y []api.Interval) outcome { return pack(Meet(x, y)) })
	})
	same("Not of Union", then(pack(Union(a, b)), not), nots)
	left := then(not(b), func(y []api.Interval) outcome { return pack(Meet(a, y)) })
	if got, e := Within(a, b); left.e == api.OK && (e != api.OK || got != (len(left.set) == 0)) {
		t.Fatalf("Within(%v, %v): %v and %d, but %v is left", a, b, got, e, left)
	}
}

// P4.8: a number is in a result exactly if it is in one, in both, or not in the set.
func TestNumbers(t *testing.T) {
	r := rand.New(rand.NewSource(9))
	check := func(a, b []api.Interval, numbers []api.Ratio) {
		union, meet, not := pack(Union(a, b)), pack(Meet(a, b)), pack(Not(a))
		for _, x := range numbers {
			inA, inB := Has(a, x), Has(b, x)
			if union.e == api.OK && Has(union.set, x) != (inA || inB) || meet.e == api.OK && Has(meet.set, x) != (inA && inB) || not.e == api.OK && Has(not.set, x) != !inA {
				t.Fatalf("%v, for %v and %v: Union %v, Meet %v, Not %v", x, a, b, union, meet, not)
			}
		}
	}
	for range 1500 {
		grid := someGrid(r, 1+r.Intn(25), 1+r.Intn(30), r.Intn(16))
		numbers := []api.Ratio{n(1 << 40), n(-1 << 40), n(0), of(1, 1<<20)}
		for _, v := range samples(grid) {
			if x := number(v); refValidRatio(x) {
				numbers = append(numbers, x)
			}
			if x := number(new(big.Rat).Add(v, big.NewRat(1, 1<<20))); refValidRatio(x) {
				numbers = append(numbers, x)
			}
		}
		check(someSet(r, grid), someSet(r, grid), numbers)
	}
}

// P4.8: two sets that are not equal differ in a number that fits: the simplest one that only one of them has.
func TestDifference(t *testing.T) {
	check := func(a, b []api.Interval) {
		if Equal(a, b) {
			return
		}
		for _, p := range [][2][]api.Interval{{a, b}, {b, a}} {
			for _, x := range refCells(rest, p[0], p[1]) {
				r, ok, e := Pick(list(x))
				if !ok || e != api.OK || !refValidRatio(r) || !Has(p[0], r) || Has(p[1], r) {
					t.Fatalf("%v and %v: Pick(%v) is %v, %v and %d", p[0], p[1], x, r, ok, e)
				}
			}
		}
		if len(refCells(rest, a, b))+len(refCells(rest, b, a)) == 0 {
			t.Fatalf("%v and %v are not equal, but have the same numbers", a, b)
		}
	}
	for i, grid := range grids() {
		l := sets(grid)
		for k, a := range l {
			for m, b := range l {
				if (k*11+m+i)%23 == 0 {
					check(a, b)
				}
			}
		}
	}
	for a, b := range someSets(10, 400) {
		check(a, b)
	}
}

// R2 and R3: arguments stay what they were, and results share no memory with them or with each other.
func TestMemory(t *testing.T) {
	a, b := append(points(3, 0), in(n(5), n(9))), append(points(2, 1), in(n(4), n(7)))
	jumble := list(in(n(5), n(6)), ropen(n(2), n(3)), in(n(5), n(6)), in(n(1), n(2)))
	for name, do := range map[string]func() []api.Interval{
		"Normal":         func() []api.Interval { l, _ := Normal(jumble); return l },
		"Normal of set":  func() []api.Interval { l, _ := Normal(a); return l },
		"Union":          func() []api.Interval { l, _ := Union(a, b); return l },
		"Union with nil": func() []api.Interval { l, _ := Union(a, nil); return l },
		"Union of nil":   func() []api.Interval { l, _ := Union(nil, b); return l },
		"Meet":           func() []api.Interval { l, _ := Meet(a, b); return l },
		"Meet of same":   func() []api.Interval { l, _ := Meet(a, a); return l },
		"Not":            func() []api.Interval { l, _ := Not(a); return l },
	} {
		before := slices.Concat(a, b, jumble)
		first, second := do(), do()
		want := slices.Clone(second)
		for _, l := range [][]api.Interval{first, first[:cap(first)]} {
			for i := range l {
				l[i] = all()
			}
		}
		if !slices.Equal(before, slices.Concat(a, b, jumble)) || !slices.Equal(second, want) || !slices.Equal(do(), want) {
			t.Errorf("%s shares memory", name)
		}
	}
	code := Encode(a)
	decoded, _ := Decode(code)
	for i := range code {
		code[i] = 0
	}
	if !Equal(decoded, a) || !bytes.Equal(Encode(a), refEncode(a)) {
		t.Error("Encode and Decode share memory")
	}
}

// R3: nil and empty lists are the same, and memory behind a list does not count.
func TestEmpty(t *testing.T) {
	empty := points(3, 0)[:0]
	for _, a := range [][]api.Interval{nil, {}, empty} {
		if Valid(a) != api.OK || Has(a, n(0)) || !pack(Normal(a)).is(outcome{}) || !pack(Not(a)).is(outcome{set: list(all())}) || !bytes.Equal(Encode(a), []byte{0}) {
			t.Errorf("%v of the capacity %d", a, cap(a))
		}
		for _, b := range [][]api.Interval{nil, {}, empty} {
			within, e := Within(a, b)
			if !pack(Union(a, b)).is(outcome{}) || !pack(Meet(a, b)).is(outcome{}) || !within || e != api.OK || !Equal(a, b) {
				t.Errorf("%v and %v", a, b)
			}
		}
	}
	if got := pack(Decode([]byte{0})); !got.is(outcome{}) {
		t.Error("the empty set is decoded as", got)
	}
}

// P1: long lists, to an end and without a panic; all calls with extreme fields.
func TestExtremes(t *testing.T) {
	const count = 50000
	long := points(count, 0)
	slices.Reverse(long)
	if got := pack(Normal(long)); !got.is(outcome{e: api.ErrLimit}) {
		t.Error("Normal of many points:", got.e)
	}
	for i := range long {
		long[i].Hi.Num++
	}
	if got := pack(Normal(long)); !got.is(outcome{set: list(in(n(0), n(count)))}) {
		t.Error("Normal of many intervals:", got)
	}
	if Valid(long) != api.ErrArg || !Has(long, n(0)) || Has(long, n(count+1)) || !pack(Decode(Encode(long))).is(outcome{e: api.ErrForm}) {
		t.Error("many intervals")
	}
	ints := []int{math.MinInt, -1 << 40, -1, 0, 1, 2, 1 << 15, 1<<40 + 1, math.MaxInt}
	var l []api.Interval
	for _, num := range ints {
		for _, den := range ints {
			x := in(of(num, den), of(den, num))
			l = append(l, x, above(x.Lo), below(x.Hi))
		}
	}
	for _, x := range l {
		want := refValid(list(x))
		if e := Valid(list(x)); e != want {
			t.Errorf("Valid(%v): %d", x, e)
		}
		_, _, picked := Pick(list(x))
		if got := pack(Normal(list(x))); got.e != want || pack(Not(list(x))).e != want || picked != want {
			t.Errorf("%v: %v", x, got)
		}
		for _, num := range ints {
			if r := of(num, x.Lo.Num); Has(list(x), r) != (want == api.OK && refValidRatio(r) && refHas(x, value(r))) {
				t.Errorf("Has(%v, %v)", x, r)
			}
		}
	}
}

// The examples of the chapter.
func TestChapterExamples(t *testing.T) {
	if got := pack(Union(list(ropen(n(1), n(2))), list(in(n(2), n(3))))); !got.is(outcome{set: list(in(n(1), n(3)))}) {
		t.Error("Union of [1, 2) and [2, 3]:", got)
	}
	if got := pack(Union(list(ropen(n(1), n(2))), list(lopen(n(2), n(3))))); !got.is(outcome{set: list(ropen(n(1), n(2)), lopen(n(2), n(3)))}) {
		t.Error("Union of [1, 2) and (2, 3]:", got)
	}
	if got := pack(Not(list(ropen(n(1), n(2))))); !got.is(outcome{set: list(below(n(1)), from(n(2)))}) {
		t.Error("Not of [1, 2):", got)
	}
	for _, c := range []struct {
		x    api.Interval
		want api.Ratio
	}{{lopen(of(1, 3), of(1, 2)), of(1, 2)}, {open(of(1, 3), of(1, 2)), of(2, 5)}, {all(), n(0)}} {
		if r, ok, e := Pick(list(c.x)); r != c.want || !ok || e != api.OK {
			t.Errorf("Pick(%v): %v, %v and %d", c.x, r, ok, e)
		}
	}
}

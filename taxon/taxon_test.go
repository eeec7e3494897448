package taxon

import (
	"bytes"
	"math"
	"math/rand"
	"slices"
	"testing"

	"priorart/api"
	"priorart/wire"
)

// The reference has the relation as a set of pairs, to which it adds pairs by the words of the chapter until none is
// missing. It shares no code with the package.

type pair struct{ c, d int }

// relation has the pairs of a class and another one from which it inherits.
type relation map[pair]bool

func refInherits(parents [][]int) relation {
	r := relation{}
	for grown := true; grown; {
		grown = false
		for c, l := range parents {
			for d := range parents {
				inherits := slices.ContainsFunc(l, func(p int) bool { return p == d || r[pair{p, d}] })
				if inherits && !r[pair{c, d}] {
					r[pair{c, d}] = true
					grown = true
				}
			}
		}
	}
	return r
}

// refNew returns the error of New.
func refNew(parents [][]int) api.Errno {
	if len(parents) > 64 {
		return api.ErrLimit
	}
	for _, l := range parents {
		for i, p := range l {
			if p < 0 || p >= len(parents) || slices.ContainsFunc(l[:i], func(q int) bool { return q >= p }) {
				return api.ErrArg
			}
		}
	}
	r := refInherits(parents)
	for c := range parents {
		if r[pair{c, c}] {
			return api.ErrCycle
		}
	}
	return api.OK
}

// filter returns the classes of n for which keep holds.
func filter(n int, keep func(c int) bool) []int {
	var l []int
	for c := range n {
		if keep(c) {
			l = append(l, c)
		}
	}
	return l
}

func (r relation) is(c, d int) bool { return c == d || r[pair{c, d}] }

func (r relation) up(n int, l []int) []int {
	return filter(n, func(d int) bool { return slices.ContainsFunc(l, func(c int) bool { return r.is(c, d) }) })
}

func (r relation) down(n int, c int) []int {
	return filter(n, func(d int) bool { return r.is(d, c) })
}

func (r relation) least(n int, l []int) []int {
	return filter(n, func(d int) bool {
		return slices.Contains(l, d) && !slices.ContainsFunc(l, func(c int) bool { return r[pair{c, d}] })
	})
}

// refEncode writes byte by byte: no number of a taxonomy but 64, the number of its classes, has two bytes.
func refEncode(parents [][]int) []byte {
	b := []byte{byte(2 * len(parents))}
	if len(parents) == 64 {
		b = []byte{128, 1}
	}
	for _, l := range parents {
		b = append(b, byte(len(l)))
		for _, p := range l {
			b = append(b, byte(2*p))
		}
	}
	return b
}

func equalLists(a, b [][]int) bool {
	return slices.EqualFunc(a, b, slices.Equal[[]int])
}

func clone(l [][]int) [][]int {
	var c [][]int
	for _, x := range l {
		c = append(c, slices.Clone(x))
	}
	return c
}

// subset returns the numbers of the bits of a mask.
func subset(mask int) []int {
	return filter(8, func(c int) bool { return mask>>c&1 == 1 })
}

// everyParents yields all lists of parents of n classes, whose masks have n bits each.
func everyParents(n int, yield func(parents [][]int)) {
	for mask := range 1 << (n * n) {
		var parents [][]int
		for c := range n {
			parents = append(parents, subset(mask>>(n*c)&(1<<n-1)))
		}
		yield(parents)
	}
}

// someParents returns the parents of n classes in some order, without a cycle.
func someParents(rnd *rand.Rand, n int, density float64) [][]int {
	order := rnd.Perm(n)
	parents := make([][]int, n)
	for i, c := range order {
		for _, p := range order[:i] {
			if rnd.Float64() < density {
				parents[c] = append(parents[c], p)
			}
		}
		slices.Sort(parents[c])
	}
	return parents
}

// someTaxonomies calls use with random taxonomies of each size, and with their relations.
func someTaxonomies(t *testing.T, use func(rnd *rand.Rand, parents [][]int, u *Taxon, r relation)) {
	rnd := rand.New(rand.NewSource(5))
	for n := range 65 {
		for _, density := range []float64{0, 0.03, 0.1, 0.3, 1} {
			parents := someParents(rnd, n, density)
			use(rnd, parents, made(t, parents), refInherits(parents))
		}
	}
}

// someList returns a list of up to most classes, in any order and with repetitions.
func someList(rnd *rand.Rand, n, most int) []int {
	var l []int
	for n > 0 && len(l) < most && rnd.Intn(8) > 0 {
		l = append(l, rnd.Intn(n))
	}
	return l
}

func made(t *testing.T, parents [][]int) *Taxon {
	t.Helper()
	u, e := New(parents)
	if u == nil || e != api.OK {
		t.Fatalf("New(%v): %d", parents, e)
	}
	return u
}

// line is n classes, each of which has the one before it as its only parent.
func line(n int) [][]int {
	parents := make([][]int, n)
	for c := 1; c < n; c++ {
		parents[c] = []int{c - 1}
	}
	return parents
}

// ring is a line whose first class inherits from its last one.
func ring(n int) [][]int {
	parents := line(n)
	parents[0] = []int{n - 1}
	return parents
}

// full is n classes, each of which has all those before it as its parents.
func full(n int) [][]int {
	parents := make([][]int, n)
	for c := range n {
		parents[c] = filter(c, func(int) bool { return true })
	}
	return parents
}

// diamond is a class, two that inherit from it, and one that inherits from both.
func diamond() [][]int { return [][]int{nil, {0}, {0}, {1, 2}} }

// everyCall checks all calls of a taxonomy for all classes and for some lists.
func everyCall(t *testing.T, parents [][]int, u *Taxon, r relation, lists ...[]int) {
	t.Helper()
	n := len(parents)
	if u.Len() != n || !equalLists(u.Parents(), parents) {
		t.Fatalf("%v: %d classes, %v", parents, u.Len(), u.Parents())
	}
	for c := -1; c <= n; c++ {
		for d := -1; d <= n; d++ {
			want := 0 <= c && c < n && 0 <= d && d < n && r.is(c, d)
			if u.Is(c, d) != want {
				t.Fatalf("%v: Is(%d, %d): %v", parents, c, d, !want)
			}
		}
	}
	for c := range n {
		if l, e := u.Down(c); e != api.OK || !slices.Equal(l, r.down(n, c)) {
			t.Fatalf("%v: Down(%d): %v, %d", parents, c, l, e)
		}
	}
	for _, l := range lists {
		if up, e := u.Up(l); e != api.OK || !slices.Equal(up, r.up(n, l)) {
			t.Fatalf("%v: Up(%v): %v, %d", parents, l, up, e)
		}
		if least, e := u.Least(l); e != api.OK || !slices.Equal(least, r.least(n, l)) {
			t.Fatalf("%v: Least(%v): %v, %d", parents, l, least, e)
		}
	}
}

// P5.1: cases that were worked out by hand: each error, the limits, and which error comes first.
func TestNew(t *testing.T) {
	limit := append(line(64), nil)
	for i, c := range []struct {
		parents [][]int
		want    api.Errno
	}{
		{nil, api.OK}, {[][]int{}, api.OK}, {[][]int{nil}, api.OK}, {[][]int{{}}, api.OK}, {[][]int{nil, nil}, api.OK},
		{diamond(), api.OK}, {[][]int{nil, {0}, {0, 1}}, api.OK}, {[][]int{{1, 2}, {2}, nil}, api.OK}, {[][]int{{2}, {0}, nil}, api.OK},
		{[][]int{{0}}, api.ErrCycle}, {[][]int{nil, {0, 1}}, api.ErrCycle}, {[][]int{{1}, {0}}, api.ErrCycle}, {[][]int{{1}, {2}, {0}}, api.ErrCycle},
		{[][]int{nil, {2}, {0, 3}, {1}}, api.ErrCycle}, {[][]int{{1}, {2}, {1}}, api.ErrCycle}, {[][]int{nil, nil, {3}, {2}}, api.ErrCycle},
		{[][]int{nil, {0, 0}}, api.ErrArg}, {[][]int{nil, nil, {1, 0}}, api.ErrArg}, {[][]int{nil, nil, nil, {0, 2, 1}}, api.ErrArg}, {[][]int{nil, nil, nil, {1, 2, 2}}, api.ErrArg},
		{[][]int{{1}}, api.ErrArg}, {[][]int{nil, {2}}, api.ErrArg}, {[][]int{nil, {0, 2}}, api.ErrArg}, {[][]int{nil, {-1}}, api.ErrArg}, {[][]int{nil, {-1, 0}}, api.ErrArg},
		{[][]int{nil, {math.MinInt}}, api.ErrArg}, {[][]int{nil, {0, math.MaxInt}}, api.ErrArg}, {[][]int{nil, {math.MinInt, -1, 0}}, api.ErrArg}, {[][]int{nil, {64}}, api.ErrArg},
		{line(63), api.OK}, {line(64), api.OK}, {full(64), api.OK}, {make([][]int, 64), api.OK}, {ring(64), api.ErrCycle}, {ring(2), api.ErrCycle},
		{limit, api.ErrLimit}, {make([][]int, 65), api.ErrLimit}, {make([][]int, 100000), api.ErrLimit}, {full(65), api.ErrLimit}, {ring(65), api.ErrLimit},
		{append(make([][]int, 64), []int{1, 0}), api.ErrLimit}, {append([][]int{{-1}}, line(64)...), api.ErrLimit},
		{[][]int{{0}, {0, 0}}, api.ErrArg}, {[][]int{{1}, {0}, {7}}, api.ErrArg}, {[][]int{{0, 0}}, api.ErrArg}, {append(ring(63), []int{64}), api.ErrArg},
	} {
		u, e := New(c.parents)
		if e != c.want || (u == nil) != (e != api.OK) {
			t.Errorf("case %d: %v, %d, want %d", i, u, e, c.want)
		}
		if len(c.parents) <= 65 && refNew(c.parents) != c.want {
			t.Errorf("case %d: the reference gives %d", i, refNew(c.parents))
		}
		if u != nil && (u.Len() != len(c.parents) || !equalLists(u.Parents(), c.parents)) {
			t.Errorf("case %d: %d classes, %v", i, u.Len(), u.Parents())
		}
	}
}

// P5.1 to P5.4: all lists of parents of up to 4 classes, and all calls of those that are taxonomies, against the reference.
func TestEvery(t *testing.T) {
	taxonomies := 0
	for n := range 5 {
		var lists [][]int
		for mask := range 1 << n {
			lists = append(lists, subset(mask))
		}
		everyParents(n, func(parents [][]int) {
			u, e := New(parents)
			r := refInherits(parents)
			cycle := slices.ContainsFunc(filter(n, func(int) bool { return true }), func(c int) bool { return r[pair{c, c}] })
			if cycle != (e == api.ErrCycle) || cycle != (u == nil) || !cycle && e != api.OK {
				t.Fatalf("New(%v): %d", parents, e)
			}
			if !cycle {
				taxonomies++
				everyCall(t, parents, u, r, lists...)
			}
		})
	}
	if taxonomies != 1+1+3+25+543 {
		t.Errorf("%d taxonomies", taxonomies)
	}
}

// P5.1: all short lists of numbers as the lists of two classes, most of them invalid, against the reference.
func TestNewInvalid(t *testing.T) {
	lists := [][]int{nil}
	for a := -1; a <= 3; a++ {
		lists = append(lists, []int{a})
		for b := -1; b <= 3; b++ {
			lists = append(lists, []int{a, b})
			for c := -1; c <= 3; c++ {
				lists = append(lists, []int{a, b, c})
			}
		}
	}
	for _, x := range lists {
		for _, y := range lists {
			for _, parents := range [][][]int{{x, y}, {x, nil, y}} {
				u, e := New(parents)
				if e != refNew(parents) || (u == nil) != (e != api.OK) {
					t.Fatalf("New(%v): %d, want %d", parents, e, refNew(parents))
				}
			}
		}
	}
}

// P5.1 to P5.4: random taxonomies of each size, and random lists of their classes, against the reference.
func TestRandom(t *testing.T) {
	someTaxonomies(t, func(rnd *rand.Rand, parents [][]int, u *Taxon, r relation) {
		var lists [][]int
		for range 20 {
			lists = append(lists, someList(rnd, len(parents), 80))
		}
		everyCall(t, parents, u, r, lists...)
	})
}

// P5.1: random classes with one more parent each, so that some of them inherit from themselves.
func TestRandomCycles(t *testing.T) {
	rnd := rand.New(rand.NewSource(51))
	cycles := 0
	for range 600 {
		n := 2 + rnd.Intn(63)
		parents := someParents(rnd, n, rnd.Float64()*0.1)
		c := rnd.Intn(n)
		parents[c] = append(parents[c], rnd.Intn(n))
		slices.Sort(parents[c])
		parents[c] = slices.Compact(parents[c])
		u, e := New(parents)
		if e != refNew(parents) || (u == nil) != (e != api.OK) {
			t.Fatalf("New(%v): %d, want %d", parents, e, refNew(parents))
		}
		if e == api.ErrCycle {
			cycles++
		}
	}
	if cycles < 50 || cycles > 550 {
		t.Errorf("%d cycles", cycles)
	}
}

// P5.2: cases that were worked out by hand, also with numbers that are no classes.
func TestIs(t *testing.T) {
	u := made(t, diamond())
	for _, x := range []pair{{0, 0}, {3, 3}, {1, 0}, {2, 0}, {3, 0}, {3, 1}, {3, 2}} {
		if !u.Is(x.c, x.d) {
			t.Errorf("Is(%d, %d)", x.c, x.d)
		}
	}
	for _, x := range []pair{{0, 1}, {0, 3}, {1, 2}, {2, 1}, {1, 3}, {4, 0}, {0, 4}, {4, 4}, {-1, -1}, {-1, 0}, {3, -1}, {64, 64}, {63, 0}, {math.MinInt, 0}, {math.MaxInt, math.MaxInt}, {0, math.MaxInt}, {3, math.MinInt}} {
		if u.Is(x.c, x.d) {
			t.Errorf("Is(%d, %d)", x.c, x.d)
		}
	}
	if u := made(t, nil); u.Is(0, 0) || u.Is(-1, -1) {
		t.Error("no classes")
	}
	if u := made(t, line(64)); !u.Is(63, 0) || !u.Is(63, 62) || u.Is(0, 63) || u.Is(64, 0) || u.Is(64, 64) {
		t.Error("a line")
	}
}

// P5.3 and P5.4: cases that were worked out by hand. 0 and 1 are roots; 2 inherits from both, 3 from 2, 4 from 1, 5 from 3 and 4; 6 stands alone.
func TestLists(t *testing.T) {
	u := made(t, [][]int{nil, nil, {0, 1}, {2}, {1}, {3, 4}, nil})
	for _, c := range []struct{ l, up, least []int }{
		{nil, nil, nil}, {[]int{}, nil, nil}, {[]int{0}, []int{0}, []int{0}}, {[]int{6}, []int{6}, []int{6}}, {[]int{6, 6, 6}, []int{6}, []int{6}},
		{[]int{2}, []int{0, 1, 2}, []int{2}}, {[]int{3}, []int{0, 1, 2, 3}, []int{3}}, {[]int{4}, []int{1, 4}, []int{4}}, {[]int{5}, []int{0, 1, 2, 3, 4, 5}, []int{5}},
		{[]int{1, 0}, []int{0, 1}, []int{0, 1}}, {[]int{4, 0, 4}, []int{0, 1, 4}, []int{0, 4}}, {[]int{4, 3}, []int{0, 1, 2, 3, 4}, []int{3, 4}},
		{[]int{3, 0}, []int{0, 1, 2, 3}, []int{3}}, {[]int{0, 3, 0}, []int{0, 1, 2, 3}, []int{3}}, {[]int{6, 5, 4, 3, 2, 1, 0}, []int{0, 1, 2, 3, 4, 5, 6}, []int{5, 6}},
		{[]int{1, 2, 4}, []int{0, 1, 2, 4}, []int{2, 4}}, {[]int{5, 5, 1, 6, 1}, []int{0, 1, 2, 3, 4, 5, 6}, []int{5, 6}},
	} {
		up, e := u.Up(c.l)
		least, f := u.Least(c.l)
		if e != api.OK || f != api.OK || !slices.Equal(up, c.up) || !slices.Equal(least, c.least) {
			t.Errorf("%v: %v, %d and %v, %d", c.l, up, e, least, f)
		}
	}
	for c, want := range [][]int{{0, 2, 3, 5}, {1, 2, 3, 4, 5}, {2, 3, 5}, {3, 5}, {4, 5}, {5}, {6}} {
		if l, e := u.Down(c); e != api.OK || !slices.Equal(l, want) {
			t.Errorf("Down(%d): %v, %d", c, l, e)
		}
	}
}

// P5.3 and P5.4: numbers that are no classes, at the beginning, in the middle and at the end of lists.
func TestErrNone(t *testing.T) {
	for n, u := range []*Taxon{made(t, nil), made(t, line(1)), made(t, line(2)), made(t, full(3))} {
		valid := filter(n, func(int) bool { return true })
		for _, c := range []int{-1, n, n + 1, 63, 64, -64, math.MinInt, math.MaxInt} {
			for i := range n + 1 {
				l := slices.Insert(slices.Clone(valid), i, c)
				if up, e := u.Up(l); len(up) > 0 || e != api.ErrNone {
					t.Errorf("Up(%v): %v, %d", l, up, e)
				}
				if least, e := u.Least(l); len(least) > 0 || e != api.ErrNone {
					t.Errorf("Least(%v): %v, %d", l, least, e)
				}
			}
			if down, e := u.Down(c); len(down) > 0 || e != api.ErrNone {
				t.Errorf("Down(%d): %v, %d", c, down, e)
			}
		}
	}
}

// P5.5: bytes that were worked out by hand.
func TestEncode(t *testing.T) {
	for _, c := range []struct {
		parents [][]int
		want    []byte
	}{
		{nil, []byte{0}}, {[][]int{nil}, []byte{2, 0}}, {[][]int{nil, {0}}, []byte{4, 0, 1, 0}}, {[][]int{{1}, nil}, []byte{4, 1, 2, 0}},
		{diamond(), []byte{8, 0, 1, 0, 1, 0, 2, 2, 4}}, {make([][]int, 64), append([]byte{128, 1}, make([]byte, 64)...)}, {make([][]int, 63), append([]byte{126}, make([]byte, 63)...)},
	} {
		u := made(t, c.parents)
		if b := Encode(u); !bytes.Equal(b, c.want) || !bytes.Equal(b, refEncode(c.parents)) {
			t.Errorf("Encode of %v: %v", c.parents, b)
		}
	}
	if b := Encode(nil); len(b) != 0 {
		t.Errorf("Encode(nil): %v", b)
	}
}

// P5.5: every taxonomy of up to 3 classes and random ones of each size come back from their encodings.
func TestRound(t *testing.T) {
	check := func(parents [][]int, u *Taxon) {
		b := Encode(u)
		if !bytes.Equal(b, refEncode(parents)) {
			t.Fatalf("Encode of %v: %v", parents, b)
		}
		v, e := Decode(b)
		if v == nil || e != api.OK || !equalLists(v.Parents(), parents) {
			t.Fatalf("Decode(%v): %d", b, e)
		}
		everyCall(t, parents, v, refInherits(parents), filter(len(parents), func(c int) bool { return c%2 == 0 }))
	}
	for n := range 4 {
		everyParents(n, func(parents [][]int) {
			if refNew(parents) == api.OK {
				check(parents, made(t, parents))
			}
		})
	}
	someTaxonomies(t, func(_ *rand.Rand, parents [][]int, u *Taxon, _ relation) { check(parents, u) })
}

// P5.5: what is not the encoding of a taxonomy is malformed, also where the wire would want more bytes.
func TestDecode(t *testing.T) {
	written := func(count int, lists ...[]int) []byte {
		var w wire.Writer
		w.Int(count)
		for _, l := range lists {
			w.Ints(l)
		}
		return w.Done()
	}
	for i, b := range [][]byte{
		nil, {}, {1}, {2}, {3, 0}, {4, 0}, {0, 0}, {2, 0, 0}, {2, 1, 0}, {4, 1, 2, 1, 0}, {4, 0, 1, 2}, {4, 0, 2, 0, 0}, {4, 0, 1, 1}, {4, 0, 1, 4},
		{128, 0}, {2, 128, 0}, {4, 0, 129, 0, 0}, {4, 0, 1, 128, 0}, {4, 0, 1}, {4, 0, 5}, {255, 255, 255, 255, 255, 255, 255, 255, 255, 1}, {254, 255, 255, 255, 255, 255, 255, 255, 255, 1},
		written(-1), written(65, make([][]int, 65)...), written(65, line(65)...), written(64, make([][]int, 63)...), written(64, make([][]int, 65)...), written(64, ring(64)...),
		written(1<<40, nil), written(math.MaxInt), written(math.MinInt), written(2, nil, []int{math.MinInt}), written(2, []int{1, 0}, nil), written(-2, nil, nil),
		append(written(3, diamond()[:3]...), 1), append([]byte{0}, written(2, nil, nil)...),
	} {
		if u, e := Decode(b); u != nil || e != api.ErrForm {
			t.Errorf("case %d: Decode(%v): %v, %d", i, b, u, e)
		}
	}
	for _, parents := range [][][]int{line(64), full(64), make([][]int, 64)} {
		if u, e := Decode(written(64, parents...)); u == nil || e != api.OK || !equalLists(u.Parents(), parents) {
			t.Errorf("64 classes: %v, %d", u, e)
		}
	}
}

// P5.5: all short byte slices with small bytes, and random changes of encodings, are decoded exactly if they are encodings.
func TestDecodeEvery(t *testing.T) {
	known := map[string][][]int{}
	for n := range 4 {
		everyParents(n, func(parents [][]int) {
			if refNew(parents) == api.OK {
				known[string(refEncode(parents))] = parents
			}
		})
	}
	check := func(b []byte) bool {
		u, e := Decode(b)
		parents, ok := known[string(b)]
		if ok != (u != nil) || ok != (e == api.OK) || !ok && e != api.ErrForm || ok && !equalLists(u.Parents(), parents) {
			t.Fatalf("Decode(%v): %v, %d", b, u, e)
		}
		return ok
	}
	found := 0
	var extend func(b []byte, left int)
	extend = func(b []byte, left int) {
		if check(b) {
			found++
		}
		if left == 0 {
			return
		}
		for _, c := range []byte{0, 1, 2, 3, 4, 5, 6, 128, 255} {
			extend(append(b, c), left-1)
		}
	}
	extend(nil, 6)
	// With 6 bytes, 3 classes have at most 2 parents in all: 1 taxonomy has none, 6 have 1, and 12 have 2.
	if found != 1+1+3+19 {
		t.Errorf("%d of the byte slices were taxonomies", found)
	}
}

// P5.5: an encoding that is cut off, made longer or changed is another one or none.
func TestDecodeSpoiled(t *testing.T) {
	rnd := rand.New(rand.NewSource(52))
	for range 60 {
		b := Encode(made(t, someParents(rnd, rnd.Intn(12), 0.3)))
		var spoiled [][]byte
		for i := range b {
			spoiled = append(spoiled, b[:i])
			for range 20 {
				c := slices.Clone(b)
				c[i] = byte(rnd.Intn(256) >> rnd.Intn(8))
				spoiled = append(spoiled, c)
			}
		}
		for _, c := range append(spoiled, append(slices.Clone(b), 0), append(slices.Clone(b), b...)) {
			u, e := Decode(c)
			if u == nil && e != api.ErrForm || u != nil && (e != api.OK || !bytes.Equal(Encode(u), c)) {
				t.Fatalf("Decode(%v): %v, %d", c, u, e)
			}
			if u != nil && !bytes.Equal(refEncode(u.Parents()), c) {
				t.Fatalf("Decode(%v) has the parents %v", c, u.Parents())
			}
		}
	}
}

// P5.6: an order, and the least one: whatever is in it follows from a parent.
func TestOrder(t *testing.T) {
	someTaxonomies(t, func(_ *rand.Rand, parents [][]int, u *Taxon, _ relation) {
		for c := range u.Len() {
			if !u.Is(c, c) {
				t.Fatalf("%v: Is(%d, %d) does not hold", parents, c, c)
			}
			for _, p := range parents[c] {
				if !u.Is(c, p) {
					t.Fatalf("%v: %d is no %d", parents, c, p)
				}
			}
			for d := range u.Len() {
				if c != d && u.Is(c, d) && u.Is(d, c) {
					t.Fatalf("%v: %d and %d", parents, c, d)
				}
				if c != d && u.Is(c, d) && !slices.ContainsFunc(parents[c], func(p int) bool { return u.Is(p, d) }) {
					t.Fatalf("%v: no parent makes %d a %d", parents, c, d)
				}
				for e := range u.Len() {
					if u.Is(c, d) && u.Is(d, e) && !u.Is(c, e) {
						t.Fatalf("%v: %d, %d and %d", parents, c, d, e)
					}
				}
			}
		}
	})
}

// got returns a list for which there is no error.
func got(l []int, e api.Errno) []int {
	if e != api.OK {
		panic("no list")
	}
	return l
}

// P5.7: Up is a closure, joins, and is the other side of Down.
func TestClosure(t *testing.T) {
	someTaxonomies(t, func(rnd *rand.Rand, parents [][]int, u *Taxon, _ relation) {
		n := len(parents)
		for range 10 {
			a, b := someList(rnd, n, 10), someList(rnd, n, 10)
			up, other := got(u.Up(a)), got(u.Up(b))
			if !slices.Equal(got(u.Up(up)), up) {
				t.Fatalf("%v: Up(%v) is no closure", parents, a)
			}
			both := append(slices.Clone(up), other...)
			slices.Sort(both)
			if !slices.Equal(got(u.Up(append(slices.Clone(a), b...))), slices.Compact(both)) {
				t.Fatalf("%v: Up(%v) and Up(%v)", parents, a, b)
			}
		}
		for c := range n {
			down := got(u.Down(c))
			for d := range n {
				if slices.Contains(down, d) != slices.Contains(got(u.Up([]int{d})), c) {
					t.Fatalf("%v: Down(%d) and Up of %d", parents, c, d)
				}
			}
		}
	})
}

// P5.8: Least keeps Up, has nothing to leave out, and is in each list with the same Up.
func TestLeast(t *testing.T) {
	someTaxonomies(t, func(rnd *rand.Rand, parents [][]int, u *Taxon, _ relation) {
		for range 10 {
			l := someList(rnd, len(parents), 12)
			least, up := got(u.Least(l)), got(u.Up(l))
			if !slices.Equal(got(u.Up(least)), up) || !slices.Equal(got(u.Least(up)), least) || !slices.Equal(got(u.Least(least)), least) {
				t.Fatalf("%v: Least(%v): %v", parents, l, least)
			}
			for i, c := range least {
				if !slices.Contains(l, c) || i > 0 && least[i-1] >= c || slices.ContainsFunc(least, func(d int) bool { return c != d && u.Is(c, d) }) {
					t.Fatalf("%v: Least(%v): %v", parents, l, least)
				}
				// Without this class, no list has the same Up.
				rest := slices.DeleteFunc(slices.Clone(up), func(d int) bool { return d == c })
				if slices.Equal(got(u.Up(rest)), up) {
					t.Fatalf("%v: Least(%v) does not need %d", parents, l, c)
				}
			}
		}
	})
}

// P5.9: classes that are added at the end, whatever their parents are, change nothing among the others.
func TestApart(t *testing.T) {
	someTaxonomies(t, func(rnd *rand.Rand, parents [][]int, u *Taxon, r relation) {
		n := len(parents)
		more := clone(parents)
		for len(more) < 64 && rnd.Intn(6) > 0 {
			more = append(more, filter(len(more), func(int) bool { return rnd.Intn(3) == 0 }))
		}
		v := made(t, more)
		if !equalLists(v.Parents()[:n], u.Parents()) {
			t.Fatalf("%v and %v", parents, more)
		}
		for c := range n {
			for d := range n {
				if u.Is(c, d) != v.Is(c, d) {
					t.Fatalf("%v and %v: Is(%d, %d)", parents, more, c, d)
				}
			}
			old := slices.DeleteFunc(got(v.Down(c)), func(d int) bool { return d >= n })
			if !slices.Equal(got(u.Down(c)), old) {
				t.Fatalf("%v and %v: Down(%d)", parents, more, c)
			}
		}
		for range 5 {
			l := someList(rnd, n, 9)
			if !slices.Equal(got(u.Up(l)), got(v.Up(l))) || !slices.Equal(got(u.Least(l)), got(v.Least(l))) {
				t.Fatalf("%v and %v: %v", parents, more, l)
			}
		}
	})
}

// spoil overwrites all of a result.
func spoil(lists ...[]int) {
	for _, l := range lists {
		for i := range l[:cap(l)] {
			l[:cap(l)][i] = 77
		}
	}
}

// R2 and R3: arguments stay what they were, and neither they nor results share memory with the taxonomy.
func TestMemory(t *testing.T) {
	want := diamond()
	r := refInherits(want)
	lists := [][]int{{3}, {0, 3, 1}, {2, 2, 1}, nil}
	parents := clone(want)
	u := made(t, parents)
	if !equalLists(parents, want) {
		t.Fatalf("New changed its argument to %v", parents)
	}
	spoil(parents...)
	everyCall(t, want, u, r, lists...)
	spoil(u.Parents()...)
	clear(u.Parents())
	for c := range want {
		spoil(got(u.Down(c)))
	}
	for _, l := range lists {
		old := slices.Clone(l)
		spoil(got(u.Up(l)), got(u.Least(l)))
		u.Up(append(slices.Clone(l), 9))
		if !slices.Equal(l, old) {
			t.Fatalf("%v became %v", old, l)
		}
	}
	b := Encode(u)
	v, e := Decode(b)
	if e != api.OK || !bytes.Equal(b, refEncode(want)) {
		t.Fatalf("%v, %d", b, e)
	}
	clear(b)
	everyCall(t, want, u, r, lists...)
	everyCall(t, want, v, r, lists...)
	if !bytes.Equal(Encode(v), refEncode(want)) {
		t.Error("the encoding changed")
	}
	// The lists of one result lie apart: a longer one does not run into the next one.
	l := u.Parents()
	l[1] = append(l[1], 5)
	if !equalLists(l, [][]int{nil, {0, 5}, {0}, {1, 2}}) {
		t.Errorf("%v", l)
	}
}

// R1 and R3: nil and empty lists are the same; calls do not count, nor does memory behind a list.
func TestEmpty(t *testing.T) {
	u := made(t, [][]int{nil, {}, []int{0, 1, 2}[:1:3]})
	v := made(t, [][]int{{}, nil, {0}})
	if !bytes.Equal(Encode(u), Encode(v)) || !equalLists(u.Parents(), v.Parents()) || u.Is(2, 1) {
		t.Error("nil and empty lists")
	}
	for range 2 {
		for _, l := range [][]int{nil, {}, []int{7, 9}[:0]} {
			if up, e := u.Up(l); len(up) != 0 || e != api.OK {
				t.Errorf("Up: %v, %d", up, e)
			}
			if least, e := v.Least(l); len(least) != 0 || e != api.OK {
				t.Errorf("Least: %v, %d", least, e)
			}
		}
	}
	for _, parents := range [][][]int{nil, {}, [][]int{{0}}[:0]} {
		if u := made(t, parents); u.Len() != 0 || len(u.Parents()) != 0 {
			t.Error("no classes")
		}
	}
}

// P1: long lists, to an end and without a panic.
func TestExtremes(t *testing.T) {
	long := make([]int, 1<<20)
	for i := range long {
		long[i] = i % 64
	}
	u := made(t, full(64))
	all := filter(64, func(int) bool { return true })
	if up, e := u.Up(long); e != api.OK || !slices.Equal(up, all) {
		t.Errorf("Up of a long list: %v, %d", up, e)
	}
	if least, e := u.Least(long); e != api.OK || !slices.Equal(least, []int{63}) {
		t.Errorf("Least of a long list: %v, %d", least, e)
	}
	long[len(long)-1] = 64
	if up, e := u.Up(long); len(up) != 0 || e != api.ErrNone {
		t.Errorf("Up of a long list: %v, %d", up, e)
	}
	if least, e := u.Least(long); len(least) != 0 || e != api.ErrNone {
		t.Errorf("Least of a long list: %v, %d", least, e)
	}
	if u, e := New([][]int{nil, long}); u != nil || e != api.ErrArg {
		t.Errorf("New of a long list: %v, %d", u, e)
	}
	if u, e := New(make([][]int, 1<<20)); u != nil || e != api.ErrLimit {
		t.Errorf("New of many classes: %v, %d", u, e)
	}
	for _, c := range []byte{0, 1, 2, 64, 127, 128, 255} {
		if u, e := Decode(bytes.Repeat([]byte{c}, 1<<20)); u != nil || e != api.ErrForm {
			t.Errorf("Decode of many bytes %d: %v, %d", c, u, e)
		}
	}
}

// The examples of the chapter.
func TestChapterExamples(t *testing.T) {
	u := made(t, diamond())
	if !u.Is(3, 0) || u.Is(0, 3) {
		t.Error("Is")
	}
	if l, e := u.Up([]int{1}); e != api.OK || !slices.Equal(l, []int{0, 1}) {
		t.Errorf("Up: %v, %d", l, e)
	}
	if l, e := u.Down(1); e != api.OK || !slices.Equal(l, []int{1, 3}) {
		t.Errorf("Down: %v, %d", l, e)
	}
	if l, e := u.Least([]int{0, 1, 2}); e != api.OK || !slices.Equal(l, []int{1, 2}) {
		t.Errorf("Least: %v, %d", l, e)
	}
	if u, e := New([][]int{{1}, {0}}); u != nil || e != api.ErrCycle {
		t.Errorf("a cycle: %v, %d", u, e)
	}
}

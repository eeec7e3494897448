package ratio

import (
	"fmt"
	"math"
	"math/big"
	"math/rand"
	"regexp"
	"strings"
	"testing"

	"priorart/api"
)

// The reference calculates with big rationals, follows the chapter word by word and shares no code with the package.

type outcome struct {
	r api.Ratio
	e api.Errno
}

func pack(r api.Ratio, e api.Errno) outcome { return outcome{r, e} }

func of(num, den int) api.Ratio { return api.Ratio{Num: num, Den: den} }

// refFit returns the valid ratio of a value, or ErrRange.
func refFit(v *big.Rat) outcome {
	num, den := v.Num(), v.Denom()
	if num.CmpAbs(big.NewInt(1<<40)) > 0 || den.Cmp(big.NewInt(1<<20)) > 0 {
		return outcome{e: api.ErrRange}
	}
	return outcome{r: of(int(num.Int64()), int(den.Int64()))}
}

func refValid(r api.Ratio) bool {
	if r.Den < 1 || r.Den > 1<<20 || r.Num < -1<<40 || r.Num > 1<<40 {
		return false
	}
	num := new(big.Int).Abs(big.NewInt(int64(r.Num)))
	return new(big.Int).GCD(nil, nil, num, big.NewInt(int64(r.Den))).Cmp(big.NewInt(1)) == 0
}

func refNew(num, den int) outcome {
	if den == 0 {
		return outcome{e: api.ErrArg}
	}
	return refFit(big.NewRat(int64(num), int64(den)))
}

func value(r api.Ratio) *big.Rat { return big.NewRat(int64(r.Num), int64(r.Den)) }

type operation struct {
	name string
	do   func(a, b api.Ratio) (api.Ratio, api.Errno)
	ref  func(a, b *big.Rat) outcome
}

func operations() []operation {
	zero := new(big.Rat)
	return []operation{
		{"Add", Add, func(a, b *big.Rat) outcome { return refFit(new(big.Rat).Add(a, b)) }},
		{"Sub", Sub, func(a, b *big.Rat) outcome { return refFit(new(big.Rat).Sub(a, b)) }},
		{"Mul", Mul, func(a, b *big.Rat) outcome { return refFit(new(big.Rat).Mul(a, b)) }},
		{"Div", Div, func(a, b *big.Rat) outcome {
			if b.Cmp(zero) == 0 {
				return outcome{e: api.ErrArg}
			}
			return refFit(new(big.Rat).Quo(a, b))
		}},
	}
}

// refBetween goes through the denominators from 1 on; it returns false if there is nothing up to the last one.
func refBetween(a, b api.Ratio, last int) (num, den int, ok bool) {
	for den := 1; den <= last; den++ {
		// The least and the greatest numerator for which num / den is greater than a and less than b.
		least := floorOf(a.Num*den, a.Den) + 1
		greatest := -floorOf(-b.Num*den, b.Den) - 1
		switch {
		case least > greatest:
			continue
		case least > 0:
			return least, den, true
		case greatest < 0:
			return greatest, den, true
		}
		return 0, den, true
	}
	return 0, 0, false
}

// floorOf rounds n / d down, for a positive d.
func floorOf(n, d int) int {
	if n%d < 0 {
		return n/d - 1
	}
	return n / d
}

var textForm = regexp.MustCompile(`\A(-?)([0-9]{1,15})(?:(/)([0-9]{1,7})|(\.)([0-9]{1,6}))?\z`)

// refParse follows the form of a text literally.
func refParse(s string) outcome {
	parts := textForm.FindStringSubmatch(s)
	if parts == nil {
		return outcome{e: api.ErrForm}
	}
	num, den := parts[2], "1"
	if parts[3] != "" {
		den = parts[4]
	} else if parts[5] != "" {
		num, den = parts[2]+parts[6], "1"+strings.Repeat("0", len(parts[6]))
	}
	n, _ := new(big.Int).SetString(parts[1]+num, 10)
	d, _ := new(big.Int).SetString(den, 10)
	if d.Sign() == 0 {
		return outcome{e: api.ErrArg}
	}
	return refFit(new(big.Rat).SetFrac(n, d))
}

func invalid() []api.Ratio {
	return []api.Ratio{
		of(0, 0), of(1, 0), of(-1, 0), of(0, 2), of(0, -1), of(0, 1<<20), of(2, 4), of(-2, 4), of(6, 3), of(1, -2), of(-1, -2), of(1, -1),
		of(1<<40+1, 1), of(-1<<40-1, 1), of(1<<40+1, 2), of(1, 1<<20+1), of(-1, 1<<20+1), of(1<<40, 1<<20), of(1<<40, 2), of(1<<41, 1<<20),
		of(math.MaxInt, 1), of(math.MinInt, 1), of(math.MinInt, math.MinInt), of(math.MaxInt, math.MaxInt), of(1, math.MaxInt), of(1, math.MinInt),
		of(math.MinInt, -1), of(math.MinInt, 0), of(0, math.MinInt), of(3, 1<<21),
	}
}

// edges are valid ratios at and near the limits, and small ones.
func edges() []api.Ratio {
	var l []api.Ratio
	for _, num := range []int{0, 1, 2, 3, 5, 6, 7, 12, 1<<20 - 1, 1 << 20, 1<<20 + 1, 1<<39 - 1, 1 << 39, 1<<40 - 3, 1<<40 - 2, 1<<40 - 1, 1 << 40} {
		for _, den := range []int{1, 2, 3, 4, 6, 7, 1<<10 + 1, 1<<15 - 1, 1 << 15, 1<<20 - 3, 1<<20 - 1, 1 << 20} {
			if refValid(of(num, den)) {
				l = append(l, of(num, den))
				if num != 0 {
					l = append(l, of(-num, den))
				}
			}
		}
	}
	return l
}

// small are all valid ratios with small fields.
func small(num, den int) []api.Ratio {
	var l []api.Ratio
	for n := -num; n <= num; n++ {
		for d := 1; d <= den; d++ {
			if refValid(of(n, d)) {
				l = append(l, of(n, d))
			}
		}
	}
	return l
}

// someRatio returns a valid ratio with at most the given numbers of bits.
func someRatio(r *rand.Rand, numBits, denBits int) api.Ratio {
	for {
		num := r.Intn(1<<r.Intn(numBits+1) + 1)
		a := of(num, 1+r.Intn(1<<r.Intn(denBits+1)))
		if r.Intn(2) == 0 {
			a.Num = -a.Num
		}
		if refValid(a) {
			return a
		}
	}
}

// P3.1: cases that were worked out by hand: signs, zero, each limit and the number next to it, the extreme integers.
func TestNew(t *testing.T) {
	arg, far := outcome{e: api.ErrArg}, outcome{e: api.ErrRange}
	for _, c := range []struct {
		num, den int
		want     outcome
	}{
		{1, 2, outcome{r: of(1, 2)}}, {6, 4, outcome{r: of(3, 2)}}, {-6, 4, outcome{r: of(-3, 2)}}, {6, -4, outcome{r: of(-3, 2)}},
		{-6, -4, outcome{r: of(3, 2)}}, {5, 5, outcome{r: of(1, 1)}}, {10, 5, outcome{r: of(2, 1)}}, {0, 7, outcome{r: of(0, 1)}},
		{0, -7, outcome{r: of(0, 1)}}, {0, math.MinInt, outcome{r: of(0, 1)}}, {0, math.MaxInt, outcome{r: of(0, 1)}},
		{0, 0, arg}, {1, 0, arg}, {-1, 0, arg}, {math.MinInt, 0, arg}, {1 << 41, 0, arg},
		{1 << 40, 1, outcome{r: of(1<<40, 1)}}, {-1 << 40, 1, outcome{r: of(-1<<40, 1)}}, {1<<40 + 1, 1, far}, {-1<<40 - 1, 1, far},
		{1, 1 << 20, outcome{r: of(1, 1<<20)}}, {1, -1 << 20, outcome{r: of(-1, 1<<20)}}, {1, 1<<20 + 1, far}, {1, -1<<20 - 1, far},
		{1<<40 - 1, 1 << 20, outcome{r: of(1<<40-1, 1<<20)}}, {1 << 41, 2, outcome{r: of(1<<40, 1)}}, {1<<41 + 2, 2, far},
		{3, 3 << 20, outcome{r: of(1, 1<<20)}}, {2, 1<<21 + 2, far}, {1<<40 + 1, 1<<20 + 1, far},
		{math.MinInt, math.MinInt, outcome{r: of(1, 1)}}, {math.MaxInt, math.MaxInt, outcome{r: of(1, 1)}}, {math.MinInt, math.MaxInt, far},
		{math.MinInt, 1, far}, {math.MinInt, -1, far}, {1, math.MinInt, far}, {math.MaxInt, 1, far}, {1, math.MaxInt, far},
		{math.MinInt, 1 << 23, outcome{r: of(-1<<40, 1)}}, {math.MinInt, -1 << 23, outcome{r: of(1<<40, 1)}}, {math.MinInt, 1 << 22, far},
		{-1 << 43, math.MinInt, outcome{r: of(1, 1<<20)}}, {1 << 43, math.MinInt, outcome{r: of(-1, 1<<20)}}, {1 << 42, math.MinInt, far},
	} {
		if got := pack(New(c.num, c.den)); got != c.want {
			t.Errorf("New(%d, %d): %v, want %v", c.num, c.den, got, c.want)
		}
	}
}

// P3.1: small numbers, and numbers of every size, against the reference.
func TestNewReference(t *testing.T) {
	check := func(num, den int) {
		if got, want := pack(New(num, den)), refNew(num, den); got != want {
			t.Fatalf("New(%d, %d): %v, want %v", num, den, got, want)
		}
	}
	for num := -60; num <= 60; num++ {
		for den := -60; den <= 60; den++ {
			check(num, den)
		}
	}
	var ints []int
	for bit := range 64 {
		ints = append(ints, 1<<bit-1, 1<<bit, 1<<bit+1, -1<<bit, -1<<bit-1, 3<<bit)
	}
	for _, num := range ints {
		for _, den := range ints {
			check(num, den)
		}
	}
	r := rand.New(rand.NewSource(1))
	for range 20000 {
		factor := 1 + r.Intn(1<<r.Intn(16))
		check(factor*(r.Intn(1<<42)-1<<41), factor*(r.Intn(1<<22)-1<<21))
		check(int(r.Uint64()), int(r.Uint64()))
	}
}

// P3.1: cases at the limits, and the definition for small fields: no integer from 2 on divides both.
func TestValid(t *testing.T) {
	for _, r := range invalid() {
		if e := Valid(r); e != api.ErrArg {
			t.Errorf("Valid(%v): %d", r, e)
		}
	}
	for _, r := range []api.Ratio{of(0, 1), of(1, 1), of(-1, 1), of(1<<40, 1), of(-1<<40, 1), of(1, 1<<20), of(-1, 1<<20), of(1<<40-1, 1<<20), of(-1<<40+1, 1<<20), of(1<<40, 1<<20-1)} {
		if e := Valid(r); e != api.OK {
			t.Errorf("Valid(%v): %d", r, e)
		}
	}
	for num := -40; num <= 40; num++ {
		for den := -40; den <= 40; den++ {
			want := api.OK
			for n := 2; n <= 40; n++ {
				if num%n == 0 && den%n == 0 {
					want = api.ErrArg
				}
			}
			if den <= 0 {
				want = api.ErrArg
			}
			if e := Valid(of(num, den)); e != want {
				t.Errorf("Valid(%d / %d): %d, want %d", num, den, e, want)
			}
		}
	}
	r := rand.New(rand.NewSource(2))
	for range 20000 {
		a := of(r.Intn(1<<42)-1<<41, r.Intn(1<<21))
		if e := Valid(a); (e == api.OK) != refValid(a) || e != api.OK && e != api.ErrArg {
			t.Errorf("Valid(%v): %d", a, e)
		}
	}
}

// P3.1: what is not valid leads to ErrArg and nothing else, on either side and before any other error.
func TestInvalidArguments(t *testing.T) {
	arg := outcome{e: api.ErrArg}
	for _, bad := range invalid() {
		if n, e := Floor(bad); n != 0 || e != api.ErrArg {
			t.Errorf("Floor(%v): %d and %d", bad, n, e)
		}
		for _, n := range []int{0, 1, 1 << 40, -1, 1<<40 + 1, math.MaxInt, math.MinInt} {
			if part, e := Part(n, bad); part != 0 || e != api.ErrArg {
				t.Errorf("Part(%d, %v): %d and %d", n, bad, part, e)
			}
		}
		for _, other := range append(invalid(), of(0, 1), of(1, 1), of(-1, 2), of(1<<40, 1), of(-1<<40, 1), of(1, 1<<20), of(1, 1<<20-1)) {
			for _, p := range [][2]api.Ratio{{bad, other}, {other, bad}} {
				if c, e := Cmp(p[0], p[1]); c != 0 || e != api.ErrArg {
					t.Errorf("Cmp(%v): %d and %d", p, c, e)
				}
				for _, o := range operations() {
					if got := pack(o.do(p[0], p[1])); got != arg {
						t.Errorf("%s(%v): %v", o.name, p, got)
					}
				}
				if got := pack(Between(p[0], p[1])); got != arg {
					t.Errorf("Between(%v): %v", p, got)
				}
			}
		}
	}
}

// P3.2: cases that were worked out by hand, results at the limits and beyond them among them.
func TestOperations(t *testing.T) {
	arg, far := outcome{e: api.ErrArg}, outcome{e: api.ErrRange}
	whole, tiny := of(1<<40, 1), of(1, 1<<20)
	ops := operations()
	add, sub, mul, div := ops[0].do, ops[1].do, ops[2].do, ops[3].do
	for i, c := range []struct {
		do   func(a, b api.Ratio) (api.Ratio, api.Errno)
		a, b api.Ratio
		want outcome
	}{
		{add, of(1, 2), of(1, 3), outcome{r: of(5, 6)}}, {add, of(1, 6), of(1, 3), outcome{r: of(1, 2)}}, {add, of(1, 2), of(-1, 2), outcome{r: of(0, 1)}},
		{add, whole, of(0, 1), outcome{r: whole}}, {add, whole, of(1, 1), far}, {add, of(-1<<40, 1), of(-1, 1), far}, {add, whole, tiny, far},
		{add, of(1<<40-1, 1), of(1, 1), outcome{r: whole}}, {add, tiny, tiny, outcome{r: of(1, 1<<19)}}, {add, tiny, of(1, 3), far}, {add, whole, whole, far},
		{add, of(1<<40-1, 1<<20), of(1, 1<<20), outcome{r: of(1<<20, 1)}}, {add, of(1<<40-1, 1<<20), of(2, 1<<20-1), far},
		{sub, of(1, 2), of(1, 3), outcome{r: of(1, 6)}}, {sub, of(1, 3), of(1, 2), outcome{r: of(-1, 6)}}, {sub, of(2, 3), of(2, 3), outcome{r: of(0, 1)}},
		{sub, whole, of(-1, 1), far}, {sub, of(-1<<40, 1), of(1, 1), far}, {sub, whole, whole, outcome{r: of(0, 1)}}, {sub, whole, of(1, 2), far},
		{mul, of(-2, 3), of(9, 4), outcome{r: of(-3, 2)}}, {mul, of(2, 3), of(3, 2), outcome{r: of(1, 1)}}, {mul, of(0, 1), of(-1<<40, 1), outcome{r: of(0, 1)}},
		{mul, whole, whole, far}, {mul, whole, of(-1<<40, 1), far}, {mul, whole, tiny, outcome{r: of(1<<20, 1)}}, {mul, tiny, tiny, far}, {mul, tiny, of(1, 2), far},
		{mul, whole, of(2, 1), far}, {mul, whole, of(1, 1), outcome{r: whole}}, {mul, of(1<<32, 1), of(1<<32, 1), far}, {mul, of(1<<39, 3), of(6, 1), outcome{r: whole}},
		{mul, of(1<<40-1, 1<<20), of(1<<20, 3), outcome{r: of((1<<40-1)/3, 1)}}, {mul, of(1<<20, 1<<20-1), of(1<<20-1, 1<<20), outcome{r: of(1, 1)}},
		{mul, of(1<<20, 1<<10-1), of(1<<20, 1<<10+1), outcome{r: of(1<<40, 1<<20-1)}}, {mul, of(1, 1<<10), of(-1, 1<<10), outcome{r: of(-1, 1<<20)}},
		{mul, of(1, 1<<10), of(1, 1<<10+1), far}, {mul, of(-1<<20, 1), of(-1<<20, 1), outcome{r: whole}}, {mul, of(1<<20+1, 1), of(1<<20, 1), far},
		{div, of(1, 2), of(-3, 4), outcome{r: of(-2, 3)}}, {div, of(-1, 2), of(-3, 4), outcome{r: of(2, 3)}}, {div, of(0, 1), of(-5, 7), outcome{r: of(0, 1)}},
		{div, of(0, 1), of(0, 1), arg}, {div, of(1, 1), of(0, 1), arg}, {div, whole, of(0, 1), arg}, {div, tiny, whole, far}, {div, whole, tiny, far},
		{div, whole, whole, outcome{r: of(1, 1)}}, {div, of(1, 1), of(1<<20, 1), outcome{r: tiny}}, {div, of(1, 1), of(1<<20+1, 1), far},
		{div, of(-1, 1), of(-1, 1<<20), outcome{r: of(1<<20, 1)}}, {div, of(1<<20, 1), tiny, outcome{r: whole}}, {div, of(1<<20+1, 1), tiny, far},
		{div, tiny, tiny, outcome{r: of(1, 1)}}, {div, of(-1<<40, 1), of(1<<20, 1), outcome{r: of(-1<<20, 1)}}, {div, whole, of(1<<40-1, 1), far},
	} {
		if got := pack(c.do(c.a, c.b)); got != c.want {
			t.Errorf("case %d, %v and %v: %v, want %v", i, c.a, c.b, got, c.want)
		}
	}
}

// P3.2: all pairs of small ratios and of those at the limits, and random pairs, against the reference.
func TestOperationsReference(t *testing.T) {
	check := func(a, b api.Ratio) {
		x, y := value(a), value(b)
		if c, e := Cmp(a, b); c != x.Cmp(y) || e != api.OK {
			t.Fatalf("Cmp(%v, %v): %d and %d", a, b, c, e)
		}
		for _, o := range operations() {
			if got, want := pack(o.do(a, b)), o.ref(x, y); got != want {
				t.Fatalf("%s(%v, %v): %v, want %v", o.name, a, b, got, want)
			}
		}
	}
	for _, l := range [][]api.Ratio{small(8, 6), edges()} {
		for _, a := range l {
			for _, b := range l {
				check(a, b)
			}
		}
	}
	r := rand.New(rand.NewSource(3))
	for range 20000 {
		check(someRatio(r, 40, 20), someRatio(r, 40, 20))
		check(someRatio(r, 22, 11), someRatio(r, 22, 11))
	}
}

// P3.2: ratios that are as close to each other as they can be.
func TestCmpClose(t *testing.T) {
	for _, c := range []struct {
		a, b api.Ratio
		want int
	}{
		{of(-1, 2), of(-1, 3), -1}, {of(1, 2), of(1, 3), 1}, {of(1, 2), of(1, 2), 0}, {of(0, 1), of(0, 1), 0}, {of(-1, 1<<20), of(1, 1<<20), -1},
		{of(1<<40, 1<<20-1), of(1<<40-2, 1<<20-1), 1}, {of(1<<40-1, 1<<20), of(1<<40, 1<<20-1), -1}, {of(-1<<40+1, 1<<20), of(-1<<40, 1<<20-1), 1},
		{of(1<<20, 1<<20-1), of(1<<20-1, 1<<20-2), -1}, {of(1<<40, 1), of(-1<<40, 1), 1}, {of(1<<40, 1), of(1<<40-1, 1), 1},
		{of(1, 1<<20), of(1, 1<<20-1), -1}, {of(-1<<40, 1), of(-1<<40, 1), 0},
	} {
		if got, e := Cmp(c.a, c.b); got != c.want || e != api.OK {
			t.Errorf("Cmp(%v, %v): %d and %d, want %d", c.a, c.b, got, e, c.want)
		}
	}
}

// P3.3: rounding down on both sides of 0, and the reference.
func TestFloor(t *testing.T) {
	for _, c := range []struct {
		r    api.Ratio
		want int
	}{
		{of(7, 2), 3}, {of(-7, 2), -4}, {of(1, 2), 0}, {of(-1, 2), -1}, {of(0, 1), 0}, {of(5, 1), 5}, {of(-5, 1), -5}, {of(1<<40, 1), 1 << 40},
		{of(-1<<40, 1), -1 << 40}, {of(1<<40-1, 1<<20), 1<<20 - 1}, {of(-1<<40+1, 1<<20), -1 << 20}, {of(1, 1<<20), 0}, {of(-1, 1<<20), -1},
		{of(-1<<40+1, 2), -1 << 39},
	} {
		if got, e := Floor(c.r); got != c.want || e != api.OK {
			t.Errorf("Floor(%v): %d and %d, want %d", c.r, got, e, c.want)
		}
	}
	r := rand.New(rand.NewSource(4))
	list := append(small(30, 12), edges()...)
	for range 20000 {
		list = append(list, someRatio(r, 40, 20))
	}
	for _, a := range list {
		// Euclidean division by a positive number rounds down.
		want := new(big.Int).Div(big.NewInt(int64(a.Num)), big.NewInt(int64(a.Den)))
		if got, e := Floor(a); int64(got) != want.Int64() || e != api.OK {
			t.Fatalf("Floor(%v): %d and %d, want %v", a, got, e, want)
		}
	}
}

// P3.3: cases that were worked out by hand: rounding, the limits of n and of the result, products of more than 64 bits.
func TestPart(t *testing.T) {
	for _, c := range []struct {
		n    int
		r    api.Ratio
		want int
		e    api.Errno
	}{
		{100, of(2, 3), 66, api.OK}, {100, of(0, 1), 0, api.OK}, {0, of(2, 3), 0, api.OK}, {0, of(1<<40, 1), 0, api.OK}, {3, of(1, 3), 1, api.OK},
		{2, of(1, 3), 0, api.OK}, {5, of(3, 2), 7, api.OK}, {1, of(1<<40, 1), 1 << 40, api.OK}, {1 << 40, of(1, 1), 1 << 40, api.OK},
		{1 << 40, of(1, 1<<20), 1 << 20, api.OK}, {1<<40 - 1, of(1, 1<<20), 1<<20 - 1, api.OK}, {1 << 39, of(2, 1), 1 << 40, api.OK},
		{2, of(1<<40-1, 2), 1<<40 - 1, api.OK}, {3, of(1<<40-1, 2), 0, api.ErrRange}, {2, of(1<<40, 1), 0, api.ErrRange},
		{1 << 40, of(1<<40, 1), 0, api.ErrRange}, {1 << 40, of(3, 2), 0, api.ErrRange}, {1 << 40, of(1<<20, 1<<20-1), 0, api.ErrRange},
		{1 << 40, of(1<<40-1, 1<<20), 0, api.ErrRange}, {1 << 20, of(1<<40-1, 1<<20), 1<<40 - 1, api.OK}, {1<<20 - 1, of(1<<40, 1<<20-1), 1 << 40, api.OK},
		{1 << 20, of(1<<40, 1<<20-1), 0, api.ErrRange}, {1 << 24, of(1<<40, 1), 0, api.ErrRange}, {1<<24 + 1, of(1<<40, 1), 0, api.ErrRange},
		{1 << 24, of(1<<40, 1<<20-1), 0, api.ErrRange}, {1<<24 + 1, of(1<<40, 1<<20-1), 0, api.ErrRange}, {1 << 40, of(1<<24+1, 1<<20-1), 0, api.ErrRange},
		{1<<40 - 1, of(1<<20, 1<<20-1), 0, api.ErrRange}, {1 << 40, of(1<<20+1, 1<<20), 0, api.ErrRange},
		// The product exceeds 2^40 by a half, and then by 2.
		{(1<<41 + 1) / 3, of(3, 2), 1 << 40, api.OK}, {(1<<41+1)/3 + 1, of(3, 2), 0, api.ErrRange},
		{-1, of(1, 2), 0, api.ErrArg}, {1<<40 + 1, of(1, 2), 0, api.ErrArg}, {1<<40 + 1, of(0, 1), 0, api.ErrArg}, {-1, of(0, 1), 0, api.ErrArg},
		{math.MaxInt, of(1, 2), 0, api.ErrArg}, {math.MinInt, of(1, 2), 0, api.ErrArg}, {5, of(-1, 2), 0, api.ErrArg}, {0, of(-1, 2), 0, api.ErrArg},
		{0, of(-1<<40, 1), 0, api.ErrArg}, {-5, of(-1, 2), 0, api.ErrArg}, {1<<40 + 1, of(1<<40, 1), 0, api.ErrArg}, {1 << 40, of(-1<<40, 1), 0, api.ErrArg},
	} {
		if got, e := Part(c.n, c.r); got != c.want || e != c.e {
			t.Errorf("Part(%d, %v): %d and %d, want %d and %d", c.n, c.r, got, e, c.want, c.e)
		}
	}
}

// P3.3: numbers and ratios of every size against the reference.
func TestPartReference(t *testing.T) {
	check := func(n int, a api.Ratio) {
		want, wantE := 0, api.OK
		product := new(big.Int).Mul(big.NewInt(int64(n)), big.NewInt(int64(a.Num)))
		whole := product.Div(product, big.NewInt(int64(a.Den)))
		switch {
		case n < 0 || n > 1<<40 || a.Num < 0:
			wantE = api.ErrArg
		case whole.Cmp(big.NewInt(1<<40)) > 0:
			wantE = api.ErrRange
		default:
			want = int(whole.Int64())
		}
		if got, e := Part(n, a); got != want || e != wantE {
			t.Fatalf("Part(%d, %v): %d and %d, want %d and %d", n, a, got, e, want, wantE)
		}
	}
	r := rand.New(rand.NewSource(5))
	list := append(small(8, 6), edges()...)
	for _, a := range list {
		for bit := range 43 {
			for _, n := range []int{1<<bit - 1, 1 << bit, 1<<bit + 1, -1 << bit} {
				check(n, a)
			}
		}
	}
	for range 20000 {
		check(r.Intn(1<<r.Intn(42)), someRatio(r, 40, 20))
		// The results are near the limit.
		a := someRatio(r, 40, 20)
		if a.Num > 1<<20 {
			check((1<<40+1)/a.Num*a.Den+r.Intn(a.Den+1), a)
		}
	}
}

// P3.4: cases that were worked out by hand.
func TestBetween(t *testing.T) {
	order, far := outcome{e: api.ErrOrder}, outcome{e: api.ErrRange}
	for _, c := range []struct {
		a, b api.Ratio
		want outcome
	}{
		{of(1, 3), of(1, 2), outcome{r: of(2, 5)}}, {of(-1, 2), of(-1, 3), outcome{r: of(-2, 5)}}, {of(-1, 2), of(1, 2), outcome{r: of(0, 1)}},
		{of(-1<<40, 1), of(1<<40, 1), outcome{r: of(0, 1)}}, {of(-1, 1<<20), of(1, 1<<20), outcome{r: of(0, 1)}}, {of(-5, 1), of(1, 1<<20), outcome{r: of(0, 1)}},
		{of(0, 1), of(1, 1), outcome{r: of(1, 2)}}, {of(-1, 1), of(0, 1), outcome{r: of(-1, 2)}}, {of(0, 1), of(2, 1), outcome{r: of(1, 1)}},
		{of(-2, 1), of(0, 1), outcome{r: of(-1, 1)}}, {of(0, 1), of(1<<40, 1), outcome{r: of(1, 1)}}, {of(-1<<40, 1), of(0, 1), outcome{r: of(-1, 1)}},
		{of(7, 2), of(100, 1), outcome{r: of(4, 1)}}, {of(-100, 1), of(-7, 2), outcome{r: of(-4, 1)}}, {of(3, 1), of(5, 1), outcome{r: of(4, 1)}},
		{of(3, 1), of(4, 1), outcome{r: of(7, 2)}}, {of(5, 2), of(3, 1), outcome{r: of(8, 3)}}, {of(3, 1), of(7, 2), outcome{r: of(10, 3)}},
		{of(-7, 2), of(-3, 1), outcome{r: of(-10, 3)}}, {of(2, 5), of(3, 5), outcome{r: of(1, 2)}}, {of(0, 1), of(1, 7), outcome{r: of(1, 8)}},
		{of(0, 1), of(2, 7), outcome{r: of(1, 4)}}, {of(13, 10), of(27, 20), outcome{r: of(4, 3)}}, {of(333, 106), of(355, 113), outcome{r: of(688, 219)}},
		// The denominator is at its limit or beyond it.
		{of(0, 1), of(1, 1<<20-1), outcome{r: of(1, 1<<20)}}, {of(0, 1), of(1, 1<<20), far}, {of(-1, 1<<20-1), of(0, 1), outcome{r: of(-1, 1<<20)}},
		{of(-1, 1<<20), of(0, 1), far}, {of(1, 1<<20), of(1, 1<<20-1), far}, {of(1<<20-2, 1<<20-1), of(1<<20-1, 1<<20), far},
		{of(1, 1<<19), of(1, 1<<19-1), outcome{r: of(2, 1<<20-1)}}, {of(1, 1<<19+1), of(1, 1<<19), far},
		// The numerator is: the simplest one has the least denominator, whether it fits or not.
		{of(1<<40-1, 1), of(1<<40, 1), far}, {of(-1<<40, 1), of(-1<<40+1, 1), far}, {of(1<<39-1, 1), of(1<<39, 1), outcome{r: of(1<<40-1, 2)}},
		{of(1<<39, 1), of(1<<39+1, 1), far}, {of(-1<<39-1, 1), of(-1<<39, 1), far}, {of(-1<<39, 1), of(-1<<39+1, 1), outcome{r: of(-1<<40+1, 2)}},
		{of(1<<40-2, 1), of(1<<40, 1), outcome{r: of(1<<40-1, 1)}}, {of(-1<<40, 1), of(-1<<40+2, 1), outcome{r: of(-1<<40+1, 1)}},
		{of(1<<40-1, 2), of(1<<40, 1), outcome{r: of(1<<39, 1)}},
		{of(1, 2), of(1, 2), order}, {of(1, 2), of(1, 3), order}, {of(0, 1), of(0, 1), order}, {of(1, 1<<20), of(0, 1), order}, {of(0, 1), of(-1, 1), order},
		{of(1, 1), of(-1, 1), order}, {of(1<<40, 1), of(1<<40-1, 1), order}, {of(-1, 3), of(-1, 2), order}, {of(1<<40, 1), of(1<<40, 1), order},
	} {
		if got := pack(Between(c.a, c.b)); got != c.want {
			t.Errorf("Between(%v, %v): %v, want %v", c.a, c.b, got, c.want)
		}
	}
}

// P3.4: all pairs of small ratios: the rationals are examined one by one in the order of their simplicity.
func TestBetweenSmall(t *testing.T) {
	first := func(a, b api.Ratio) api.Ratio {
		x, y := value(a), value(b)
		for den := 1; ; den++ {
			for size := 0; size <= 10*den; size++ {
				for _, num := range []int{size, -size} {
					v := big.NewRat(int64(num), int64(den))
					if v.Cmp(x) > 0 && v.Cmp(y) < 0 {
						return of(num, den)
					}
				}
			}
		}
	}
	list := small(10, 7)
	for _, a := range list {
		for _, b := range list {
			want := outcome{e: api.ErrOrder}
			if value(a).Cmp(value(b)) < 0 {
				want = outcome{r: first(a, b)}
			}
			if got := pack(Between(a, b)); got != want {
				t.Fatalf("Between(%v, %v): %v, want %v", a, b, got, want)
			}
		}
	}
}

// P3.4: pairs of every size and at every distance, against all denominators in order.
func TestBetweenReference(t *testing.T) {
	check := func(a, b api.Ratio) {
		want := outcome{e: api.ErrOrder}
		if value(a).Cmp(value(b)) < 0 {
			want = outcome{e: api.ErrRange}
			if num, den, ok := refBetween(a, b, 1<<20); ok {
				want = refFit(big.NewRat(int64(num), int64(den)))
			}
		}
		if got := pack(Between(a, b)); got != want {
			t.Fatalf("Between(%v, %v): %v, want %v", a, b, got, want)
		}
	}
	r := rand.New(rand.NewSource(6))
	for range 20000 {
		check(someRatio(r, 12, 7), someRatio(r, 12, 7))
	}
	for range 300 {
		a := someRatio(r, 40, 20)
		check(a, someRatio(r, 40, 20))
		// Neighbours of a.
		for _, step := range []int{-2, -1, 1, 2} {
			if b := pack(New(a.Num+step, a.Den)); b.e == api.OK {
				check(a, b.r)
			}
			if b := pack(New(a.Num, a.Den+step)); b.e == api.OK {
				check(a, b.r)
			}
		}
	}
}

// P3.5: texts of valid and of any other fields.
func TestText(t *testing.T) {
	for _, c := range []struct {
		r    api.Ratio
		want string
	}{
		{of(-5, 4), "-5/4"}, {of(7, 1), "7"}, {of(-7, 1), "-7"}, {of(0, 1), "0"}, {of(1<<40, 1), "1099511627776"}, {of(1, 1<<20), "1/1048576"},
		{of(2, 4), "2/4"}, {of(1, 0), "1/0"}, {of(0, 0), "0/0"}, {of(3, -1), "3/-1"}, {of(-3, -2), "-3/-2"}, {of(0, 5), "0/5"}, {of(1, 10), "1/10"},
		{of(math.MinInt, math.MaxInt), "-9223372036854775808/9223372036854775807"}, {of(math.MaxInt, 1), "9223372036854775807"},
		{of(math.MinInt, 1), "-9223372036854775808"}, {of(1, math.MinInt), "1/-9223372036854775808"}, {of(10, 100), "10/100"},
	} {
		if got := Text(c.r); got != c.want {
			t.Errorf("Text(%v): %q, want %q", c.r, got, c.want)
		}
	}
	for _, r := range append(append(invalid(), edges()...), small(12, 12)...) {
		want := fmt.Sprintf("%d/%d", r.Num, r.Den)
		if r.Den == 1 {
			want = fmt.Sprint(r.Num)
		}
		if got := Text(r); got != want {
			t.Errorf("Text(%v): %q, want %q", r, got, want)
		}
	}
}

// P3.5: cases that were worked out by hand: each part of the form, each error and the order of the errors.
func TestParse(t *testing.T) {
	form, arg, far := outcome{e: api.ErrForm}, outcome{e: api.ErrArg}, outcome{e: api.ErrRange}
	for _, c := range []struct {
		s    string
		want outcome
	}{
		{"0", outcome{r: of(0, 1)}}, {"-0", outcome{r: of(0, 1)}}, {"007", outcome{r: of(7, 1)}}, {"-007", outcome{r: of(-7, 1)}}, {"6/4", outcome{r: of(3, 2)}},
		{"-6/4", outcome{r: of(-3, 2)}}, {"06/0000004", outcome{r: of(3, 2)}}, {"0/9999999", outcome{r: of(0, 1)}}, {"-0/3", outcome{r: of(0, 1)}},
		{"-1.25", outcome{r: of(-5, 4)}}, {"1.25", outcome{r: of(5, 4)}}, {"-0.5", outcome{r: of(-1, 2)}}, {"0.05", outcome{r: of(1, 20)}}, {"-0.0", outcome{r: of(0, 1)}},
		{"3.0", outcome{r: of(3, 1)}}, {"3.140000", outcome{r: of(157, 50)}}, {"0.000001", outcome{r: of(1, 1000000)}}, {"-0.000001", outcome{r: of(-1, 1000000)}},
		{"123456789.5", outcome{r: of(246913579, 2)}}, {"10.10", outcome{r: of(101, 10)}}, {"1.999999", outcome{r: of(1999999, 1000000)}},
		// Limits of the value.
		{"1099511627776", outcome{r: of(1<<40, 1)}}, {"-1099511627776", outcome{r: of(-1<<40, 1)}}, {"1099511627777", far}, {"-1099511627777", far},
		{"001099511627776", outcome{r: of(1<<40, 1)}}, {"999999999999999", far}, {"-999999999999999", far}, {"1/1048576", outcome{r: of(1, 1<<20)}},
		{"1/1048577", far}, {"2/2097152", outcome{r: of(1, 1<<20)}}, {"2/2097154", far}, {"9/9999999", far}, {"2199023255552/2", outcome{r: of(1<<40, 1)}},
		{"2199023255553/2", far}, {"2199023255554/2", far}, {"999999999999999/9999999", far}, {"999999000000000/1000000", outcome{r: of(999999000, 1)}},
		{"1099511627776.0", outcome{r: of(1<<40, 1)}}, {"1099511627776.000000", outcome{r: of(1<<40, 1)}}, {"1099511627776.000001", far}, {"1099511627776.5", far},
		{"1099511627777.0", far}, {"-1099511627777.000000", far}, {"549755813887.5", outcome{r: of(1<<40-1, 2)}}, {"549755813888.5", far},
		{"1099511.627776", outcome{r: of(17179869184, 15625)}}, {"1099511.627777", far}, {"999999999999999.999999", far},
		{"-999999999999999.999999", far}, {"999999999999999.0", far}, {"300000000000.000000", outcome{r: of(300000000000, 1)}}, {"18446744073710.551616", far},
		// A denominator of 0, and errors of the form before it and before the range.
		{"1/0", arg}, {"0/0", arg}, {"-0/0000000", arg}, {"999999999999999/0", arg}, {"1/00000000", form}, {"1/0/1", form}, {"1/0 ", form}, {"1.5/0", form},
		{"1/0.5", form}, {"999999999999999/", form}, {"1099511627777.", form}, {"1/1048577x", form}, {"9999999999999999/0", form},
		// Numbers of digits.
		{"000000000000001", outcome{r: of(1, 1)}}, {"0000000000000001", form}, {"1234567890123456", form}, {"-000000000000001", outcome{r: of(-1, 1)}},
		{"-0000000000000001", form}, {"0000000000000001/2", form}, {"0000000000000001.5", form}, {"1/0000002", outcome{r: of(1, 2)}}, {"1/00000002", form},
		{"1/12345678", form}, {"1.500000", outcome{r: of(3, 2)}}, {"1.5000000", form}, {"1.1234567", form},
		// Malformed texts.
		{"", form}, {"-", form}, {"+1", form}, {"--1", form}, {"- 1", form}, {" 1", form}, {"1 ", form}, {"1\n", form}, {"1.", form}, {".5", form}, {"-.5", form},
		{"/2", form}, {"-/2", form}, {"1/", form}, {"1//2", form}, {"1..2", form}, {"1./2", form}, {"1/.2", form}, {"1/2/3", form}, {"1.2.3", form}, {"1.5/2", form},
		{"1/2.5", form}, {"1/-2", form}, {"1.-5", form}, {"1/+2", form}, {"1-", form}, {"1-2", form}, {"1,5", form}, {"1e3", form}, {"0x1", form}, {"1_000", form},
		{"\u0661", form}, {"\u22121", form}, {"1\u20442", form}, {"\uff11", form}, {"1\x00", form}, {"\x00", form}, {"\xff", form}, {"inf", form}, {"*", form}, {"1:2", form},
		{":", form}, {"1/:", form}, {"1.:", form}, {"a", form}, {"1a", form}, {"1/2a", form}, {"1.2a", form},
	} {
		if got := pack(Parse(c.s)); got != c.want {
			t.Errorf("Parse(%q): %v, want %v", c.s, got, c.want)
		}
	}
}

// P3.5: all short texts of some bytes.
func TestParseEvery(t *testing.T) {
	count := 0
	var check func(s string, left int)
	check = func(s string, left int) {
		want := refParse(s)
		if got := pack(Parse(s)); got != want {
			t.Fatalf("Parse(%q): %v, want %v", s, got, want)
		}
		if want.e == api.OK {
			count++
		}
		if left > 0 {
			for _, c := range "-+/. 0259" {
				check(s+string(c), left-1)
			}
		}
	}
	check("", 6)
	if count < 1000 {
		t.Errorf("only %d texts have a ratio", count)
	}
}

// P3.5: every byte in every place of some texts, and in place of the byte there.
func TestParseBytes(t *testing.T) {
	for _, s := range []string{"12", "-12", "1/23", "-1/23", "1.25", "-1.25"} {
		for i := range len(s) + 1 {
			for c := range 256 {
				for _, changed := range []string{s[:i] + string([]byte{byte(c)}) + s[i:], s[:i] + string([]byte{byte(c)}) + s[min(i+1, len(s)):]} {
					if got, want := pack(Parse(changed)), refParse(changed); got != want {
						t.Fatalf("Parse(%q): %v, want %v", changed, got, want)
					}
				}
			}
		}
	}
}

// P3.5: random numbers of digits up to and beyond the limits, with random digits.
func TestParseLengths(t *testing.T) {
	r := rand.New(rand.NewSource(7))
	digits := func(most int) string {
		b := make([]byte, r.Intn(most+2))
		for i := range b {
			b[i] = "000123456789"[r.Intn(12)]
		}
		return string(b)
	}
	for range 50000 {
		s := []string{"", "-"}[r.Intn(2)] + digits(15)
		switch r.Intn(3) {
		case 0:
			s += "/" + digits(7)
		case 1:
			s += "." + digits(6)
		}
		if got, want := pack(Parse(s)), refParse(s); got != want {
			t.Fatalf("Parse(%q): %v, want %v", s, got, want)
		}
	}
}

// P3.6: the laws, for all triples of small ratios and for random ones, as far as the results fit.
func TestField(t *testing.T) {
	r := rand.New(rand.NewSource(8))
	list := small(4, 3)
	for _, a := range list {
		for _, b := range list {
			for _, c := range list {
				checkLaws(t, a, b, c)
			}
		}
	}
	for range 5000 {
		checkLaws(t, someRatio(r, 16, 6), someRatio(r, 16, 6), someRatio(r, 16, 6))
		checkLaws(t, someRatio(r, 40, 20), someRatio(r, 40, 20), someRatio(r, 40, 20))
	}
}

// chain applies an operation to outcomes; it keeps the first error.
func chain(do func(a, b api.Ratio) (api.Ratio, api.Errno), x, y outcome) outcome {
	if x.e != api.OK {
		return x
	}
	if y.e != api.OK {
		return y
	}
	return pack(do(x.r, y.r))
}

func checkLaws(t *testing.T, a, b, c api.Ratio) {
	t.Helper()
	x, y, z := outcome{r: a}, outcome{r: b}, outcome{r: c}
	same := func(law string, l, r outcome) {
		t.Helper()
		if l.e == api.OK && r.e == api.OK && l != r {
			t.Fatalf("%s of %v, %v and %v: %v and %v", law, a, b, c, l, r)
		}
	}
	same("commutative Add", chain(Add, x, y), chain(Add, y, x))
	same("commutative Mul", chain(Mul, x, y), chain(Mul, y, x))
	same("associative Add", chain(Add, chain(Add, x, y), z), chain(Add, x, chain(Add, y, z)))
	same("associative Mul", chain(Mul, chain(Mul, x, y), z), chain(Mul, x, chain(Mul, y, z)))
	same("distributive Mul", chain(Mul, x, chain(Add, y, z)), chain(Add, chain(Mul, x, y), chain(Mul, x, z)))
	same("Sub after Add", chain(Sub, chain(Add, x, y), y), x)
	if b.Num != 0 {
		same("Div after Mul", chain(Div, chain(Mul, x, y), y), x)
	}
	checkOrder(t, a, b, c)
}

// checkOrder checks that Cmp is a total order that Add keeps.
func checkOrder(t *testing.T, a, b, c api.Ratio) {
	t.Helper()
	order := func(a, b api.Ratio) int {
		n, e := Cmp(a, b)
		if e != api.OK || n < -1 || n > 1 {
			t.Fatalf("Cmp(%v, %v): %d and %d", a, b, n, e)
		}
		return n
	}
	ab, bc, ac := order(a, b), order(b, c), order(a, c)
	if order(b, a) != -ab || (ab == 0) != (a == b) || order(a, a) != 0 {
		t.Fatalf("%v and %v are not in order", a, b)
	}
	if ab <= 0 && bc <= 0 && ac > 0 || ab >= 0 && bc >= 0 && ac < 0 {
		t.Fatalf("%v, %v and %v are not in order", a, b, c)
	}
	left, right := pack(Add(a, c)), pack(Add(b, c))
	if left.e == api.OK && right.e == api.OK && order(left.r, right.r) != ab {
		t.Fatalf("%v and %v change their order when %v is added", a, b, c)
	}
}

// P3.7: ends within the limits, at them and close to each other.
func TestBetweenFinds(t *testing.T) {
	check := func(a, b api.Ratio) {
		if !refValid(a) || !refValid(b) || value(a).Cmp(value(b)) >= 0 {
			return
		}
		got := pack(Between(a, b))
		if got.e != api.OK || !refValid(got.r) || got.r.Den > a.Den+b.Den {
			t.Fatalf("Between(%v, %v): %v", a, b, got)
		}
		if v := value(got.r); v.Cmp(value(a)) <= 0 || v.Cmp(value(b)) >= 0 {
			t.Fatalf("Between(%v, %v): %v", a, b, got)
		}
	}
	var list []api.Ratio
	for _, num := range []int{0, 1, 2, 1<<15 - 1, 1 << 15, 1<<15 + 1, 1<<30 - 2, 1<<30 - 1, 1 << 30} {
		for _, den := range []int{1, 2, 3, 1<<14 + 1, 1<<15 - 2, 1<<15 - 1, 1 << 15} {
			list = append(list, of(num, den), of(-num, den))
		}
	}
	for _, a := range list {
		for _, b := range list {
			check(a, b)
		}
	}
	r := rand.New(rand.NewSource(9))
	for range 50000 {
		a, b := someRatio(r, 30, 15), someRatio(r, 30, 15)
		check(a, b)
		check(b, a)
		check(a, of(a.Num+1, a.Den))
		if a.Den < 1<<15 {
			check(a, of(a.Num, a.Den+1))
			check(of(a.Num, a.Den+1), a)
		}
	}
}

// P3.7: neighbours have the sum of their denominators.
func TestBetweenNeighbours(t *testing.T) {
	for _, c := range []struct{ a, b, want api.Ratio }{
		{of(1, 1<<15), of(1, 1<<15-1), of(2, 1<<16-1)}, {of(-1, 1<<15-1), of(-1, 1<<15), of(-2, 1<<16-1)}, {of(1<<15-2, 1<<15-1), of(1<<15-1, 1<<15), of(1<<16-3, 1<<16-1)},
		{of(1<<30-1, 1), of(1<<30, 1), of(1<<31-1, 2)}, {of(-1<<30, 1), of(-1<<30+1, 1), of(-1<<31+1, 2)}, {of(0, 1), of(1, 1<<15), of(1, 1<<15+1)},
	} {
		if got := pack(Between(c.a, c.b)); got != (outcome{r: c.want}) || c.want.Den != c.a.Den+c.b.Den {
			t.Errorf("Between(%v, %v): %v, want %v", c.a, c.b, got, c.want)
		}
	}
}

// P3.8: small ratios, those at the limits and random ones.
func TestRoundTrip(t *testing.T) {
	r := rand.New(rand.NewSource(10))
	list := append(small(30, 30), edges()...)
	for range 20000 {
		list = append(list, someRatio(r, 40, 20))
	}
	for _, a := range list {
		if got := pack(Parse(Text(a))); got != (outcome{r: a}) {
			t.Fatalf("%v is printed as %q and read as %v", a, Text(a), got)
		}
	}
}

// P1: a long text, to an end and without a panic; all calls with extreme fields.
func TestExtremes(t *testing.T) {
	for _, s := range []string{strings.Repeat("1", 1<<20), strings.Repeat("-", 1<<20), "1/" + strings.Repeat("0", 1<<20), "1." + strings.Repeat("0", 1<<20)} {
		if got := pack(Parse(s)); got != (outcome{e: api.ErrForm}) {
			t.Errorf("a text of %d bytes: %v", len(s), got)
		}
	}
	ints := []int{math.MinInt, math.MinInt + 1, -1 << 62, -1<<40 - 1, -1 << 40, -1 << 20, -1, 0, 1, 1 << 20, 1<<20 + 1, 1 << 40, 1 << 62, math.MaxInt}
	var list []api.Ratio
	for _, num := range ints {
		for _, den := range ints {
			list = append(list, of(num, den))
		}
	}
	for _, a := range list {
		for _, b := range list {
			for _, o := range operations() {
				got := pack(o.do(a, b))
				if got.e != api.OK && got.r != (api.Ratio{}) || got.e == api.OK && !refValid(got.r) {
					t.Fatalf("%s(%v, %v): %v", o.name, a, b, got)
				}
			}
			if got := pack(Between(a, b)); got.e != api.OK && got.r != (api.Ratio{}) || got.e == api.OK && !refValid(got.r) {
				t.Fatalf("Between(%v, %v): %v", a, b, got)
			}
		}
	}
}

// The examples of the chapter.
func TestChapterExamples(t *testing.T) {
	if pack(Add(of(1, 2), of(1, 3))) != (outcome{r: of(5, 6)}) {
		t.Error("1/2 + 1/3")
	}
	if pack(Between(of(1, 3), of(1, 2))) != (outcome{r: of(2, 5)}) || pack(Between(of(-1, 2), of(1, 2))) != (outcome{r: of(0, 1)}) {
		t.Error("Between")
	}
	if n, e := Part(100, of(2, 3)); n != 66 || e != api.OK {
		t.Error("Part")
	}
	if pack(Parse("-1.25")) != (outcome{r: of(-5, 4)}) {
		t.Error("Parse")
	}
}

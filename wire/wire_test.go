package wire

import (
	"bytes"
	"math"
	"math/big"
	"math/rand"
	"reflect"
	"slices"
	"strings"
	"testing"

	"priorart/api"
)

// The reference follows the chapter word by word and shares no code with the package. A value is a uint64, an int,
// a bool, a string, a []byte or a []int.

// refVarint cuts the binary digits of a number into groups of 7.
func refVarint(n *big.Int) []byte {
	digits := n.Text(2)
	digits = strings.Repeat("0", (7-len(digits)%7)%7) + digits
	var b []byte
	for end := len(digits); end > 0; end -= 7 {
		group, _ := new(big.Int).SetString(digits[end-7:end], 2)
		c := byte(group.Int64())
		if end > 7 {
			c += 128
		}
		b = append(b, c)
	}
	return b
}

func refUint(n uint64) []byte {
	return refVarint(new(big.Int).SetUint64(n))
}

func refInt(n int) []byte {
	z := new(big.Int).Mul(big.NewInt(2), big.NewInt(int64(n)))
	if n < 0 {
		z.Neg(z).Sub(z, big.NewInt(1))
	}
	return refVarint(z)
}

func refEncode(v any) []byte {
	switch x := v.(type) {
	case uint64:
		return refUint(x)
	case int:
		return refInt(x)
	case bool:
		if x {
			return []byte{1}
		}
		return []byte{0}
	case string:
		return append(refUint(uint64(len(x))), x...)
	case []byte:
		return append(refUint(uint64(len(x))), x...)
	case []int:
		b := refUint(uint64(len(x)))
		for _, n := range x {
			b = append(b, refInt(n)...)
		}
		return b
	}
	panic("no value")
}

// refReadUint reads the varint at the beginning of b, and tells how many bytes it examined.
func refReadUint(b []byte) (n uint64, size int, e api.Errno) {
	for i := 1; ; i++ {
		if len(b) < i {
			return 0, 0, api.ErrMore
		}
		c := b[i-1]
		if i == 10 && c > 1 || i != 1 && c == 0 {
			return 0, 0, api.ErrForm
		}
		if c < 128 {
			sum, factor := new(big.Int), big.NewInt(1)
			for _, c := range b[:i] {
				sum.Add(sum, new(big.Int).Mul(factor, big.NewInt(int64(c%128))))
				factor.Mul(factor, big.NewInt(128))
			}
			return sum.Uint64(), i, api.OK
		}
	}
}

func refReadInt(b []byte) (n, size int, e api.Errno) {
	z, size, e := refReadUint(b)
	if e != api.OK {
		return 0, 0, e
	}
	if z%2 == 0 {
		return int(z / 2), size, e
	}
	return -int(z/2) - 1, size, e
}

// refRead reads a value of the kind of like, and tells how many bytes it has.
func refRead(b []byte, like any) (v any, size int, e api.Errno) {
	switch like.(type) {
	case uint64:
		return refReadUint(b)
	case int:
		return refReadInt(b)
	case bool:
		if len(b) == 0 {
			return false, 0, api.ErrMore
		} else if b[0] > 1 {
			return false, 0, api.ErrForm
		}
		return b[0] == 1, 1, api.OK
	}
	length, size, e := refReadUint(b)
	if e == api.OK && length > uint64(len(b)-size) {
		e = api.ErrMore
	}
	if e != api.OK {
		return zero(like), 0, e
	}
	end := size + int(length)
	switch like.(type) {
	case string:
		return string(b[size:end]), end, api.OK
	case []byte:
		return slices.Clone(b[size:end]), end, api.OK
	}
	l := []int{}
	for len(l) < int(length) {
		n, more, e := refReadInt(b[size:])
		if e != api.OK {
			return []int{}, 0, e
		}
		l = append(l, n)
		size += more
	}
	return l, size, api.OK
}

func zero(like any) any {
	return reflect.Zero(reflect.TypeOf(like)).Interface()
}

// equal compares two values; nil and empty slices are equivalent.
func equal(a, b any) bool {
	switch x := a.(type) {
	case []byte:
		y, ok := b.([]byte)
		return ok && slices.Equal(x, y)
	case []int:
		y, ok := b.([]int)
		return ok && slices.Equal(x, y)
	}
	return a == b
}

func write(w *Writer, v any) {
	switch x := v.(type) {
	case uint64:
		w.Uint(x)
	case int:
		w.Int(x)
	case bool:
		w.Bool(x)
	case string:
		w.Text(x)
	case []byte:
		w.Raw(x)
	case []int:
		w.Ints(x)
	}
}

func read(r *Reader, like any) any {
	switch like.(type) {
	case uint64:
		return r.Uint()
	case int:
		return r.Int()
	case bool:
		return r.Bool()
	case string:
		return r.Text()
	case []byte:
		return r.Raw()
	}
	return r.Ints()
}

func kinds() []any {
	return []any{uint64(0), 0, false, "", []byte(nil), []int(nil)}
}

func encode(values ...any) []byte {
	var w Writer
	for _, v := range values {
		write(&w, v)
	}
	return w.Done()
}

// Ordinary and extreme numbers: on both sides of each power of 2.
func testUints() []uint64 {
	list := []uint64{0, math.MaxUint64, 300}
	for bit := range 64 {
		list = append(list, 1<<bit, 1<<bit-1, 1<<bit+1)
	}
	return list
}

func testInts() []int {
	var list []int
	for _, n := range testUints() {
		list = append(list, int(n), -int(n), ^int(n))
	}
	return list
}

func testTexts() []string {
	list := []string{"", "a", "ab", "\x00", "\x00\x00", "\xff\xfe", "\xc3", "grüße, 世界", "a\nb", "\x80\x80\x80"}
	for _, n := range []int{126, 127, 128, 129, 300, 16383, 16384} {
		list = append(list, strings.Repeat("x", n), strings.Repeat("\x80", n), strings.Repeat("\x00", n))
	}
	return list
}

func testLists() [][]int {
	list := [][]int{nil, {0}, {-1}, {0, 0, 0}, {1, -1, 64}, {math.MinInt, math.MaxInt}, testInts()}
	for _, n := range []int{126, 127, 128, 129, 300} {
		list = append(list, make([]int, n), slices.Repeat([]int{math.MinInt}, n))
	}
	return list
}

func testValues() []any {
	list := []any{false, true}
	for _, n := range testUints() {
		list = append(list, n)
	}
	for _, n := range testInts() {
		list = append(list, n)
	}
	for _, s := range testTexts() {
		list = append(list, s, []byte(s))
	}
	for _, l := range testLists() {
		list = append(list, l)
	}
	return list
}

func someUint(r *rand.Rand) uint64 {
	return r.Uint64() >> r.Intn(64)
}

func someValue(r *rand.Rand) any {
	b := make([]byte, r.Intn(12))
	r.Read(b)
	switch r.Intn(6) {
	case 0:
		return someUint(r)
	case 1:
		return int(someUint(r)) * (1 - 2*r.Intn(2))
	case 2:
		return r.Intn(2) == 1
	case 3:
		return string(b)
	case 4:
		return b
	}
	l := make([]int, r.Intn(6))
	for i := range l {
		l[i] = int(someUint(r)) * (1 - 2*r.Intn(2))
	}
	return l
}

func someValues(r *rand.Rand) []any {
	list := make([]any, 1+r.Intn(8))
	for i := range list {
		list[i] = someValue(r)
	}
	return list
}

// everyInput yields all short sequences of bytes that matter to the reader, and long varints with every tenth byte.
func everyInput(yield func([]byte) bool) {
	matter := []byte{0, 1, 2, 3, 127, 128, 129, 255}
	inputs := [][]byte{nil}
	for length := 0; length <= 5; length++ {
		var longer [][]byte
		for _, b := range inputs {
			if !yield(b) {
				return
			}
			for _, c := range matter {
				longer = append(longer, append(slices.Clone(b), c))
			}
		}
		inputs = longer
	}
	for _, c := range []byte{1, 127, 128, 129, 255} {
		for length := 6; length <= 12; length++ {
			for last := range 256 {
				b := append(bytes.Repeat([]byte{c | 128}, length-1), byte(last))
				if !yield(b) || !yield(append(b, 0)) || !yield(append(b, 1, 2)) {
					return
				}
			}
		}
	}
}

// P2.1: encodings that were worked out by hand.
func TestEncodings(t *testing.T) {
	nines := func(c byte, end ...byte) []byte { return append(bytes.Repeat([]byte{c}, 9), end...) }
	for _, c := range []struct {
		v    any
		want []byte
	}{
		{uint64(0), []byte{0}}, {uint64(1), []byte{1}}, {uint64(127), []byte{127}}, {uint64(128), []byte{128, 1}},
		{uint64(255), []byte{255, 1}}, {uint64(256), []byte{128, 2}}, {uint64(300), []byte{172, 2}},
		{uint64(16383), []byte{255, 127}}, {uint64(16384), []byte{128, 128, 1}},
		{uint64(1<<63 - 1), append(bytes.Repeat([]byte{255}, 8), 127)},
		{uint64(1 << 63), nines(128, 1)}, {uint64(math.MaxUint64), nines(255, 1)},
		{0, []byte{0}}, {-1, []byte{1}}, {1, []byte{2}}, {-2, []byte{3}}, {2, []byte{4}},
		{63, []byte{126}}, {-64, []byte{127}}, {64, []byte{128, 1}}, {-65, []byte{129, 1}},
		{math.MaxInt, append([]byte{254}, append(bytes.Repeat([]byte{255}, 8), 1)...)},
		{math.MinInt, nines(255, 1)}, {math.MinInt + 1, append([]byte{253}, append(bytes.Repeat([]byte{255}, 8), 1)...)},
		{false, []byte{0}}, {true, []byte{1}},
		{"", []byte{0}}, {"ab", []byte{2, 97, 98}}, {"\xff\x00", []byte{2, 255, 0}}, {"ü", []byte{2, 0xc3, 0xbc}},
		{strings.Repeat("x", 128), append([]byte{128, 1}, bytes.Repeat([]byte{'x'}, 128)...)},
		{[]byte(nil), []byte{0}}, {[]byte{}, []byte{0}}, {[]byte{0, 200}, []byte{2, 0, 200}},
		{bytes.Repeat([]byte{7}, 300), append([]byte{172, 2}, bytes.Repeat([]byte{7}, 300)...)},
		{[]int(nil), []byte{0}}, {[]int{}, []byte{0}}, {[]int{1, -1, 64}, []byte{3, 2, 1, 128, 1}},
		{make([]int, 128), append([]byte{128, 1}, make([]byte, 128)...)},
	} {
		if got := encode(c.v); !bytes.Equal(got, c.want) {
			t.Errorf("%T %v is encoded as %v, want %v", c.v, c.v, got, c.want)
		}
		if got := refEncode(c.v); !bytes.Equal(got, c.want) {
			t.Errorf("the reference encodes %T %v as %v, want %v", c.v, c.v, got, c.want)
		}
	}
}

// P2.1: ordinary, empty and extreme values alone.
func TestEncodeEach(t *testing.T) {
	for _, v := range testValues() {
		if got, want := encode(v), refEncode(v); !bytes.Equal(got, want) {
			t.Errorf("%T %v is encoded as %v, want %v", v, v, got, want)
		}
	}
}

// P2.1: each method appends behind what is there, and Done returns all of it, after each value.
func TestAppend(t *testing.T) {
	r := rand.New(rand.NewSource(1))
	for range 300 {
		var w Writer
		var want []byte
		for _, v := range someValues(r) {
			write(&w, v)
			want = append(want, refEncode(v)...)
			if got := w.Done(); !bytes.Equal(got, want) {
				t.Fatalf("after %T %v: %v, want %v", v, v, got, want)
			}
		}
	}
}

// P2.1: the zero Writer contains no bytes.
func TestZeroWriter(t *testing.T) {
	var w Writer
	if got := w.Done(); len(got) != 0 {
		t.Errorf("the zero Writer contains %v", got)
	}
	w.Bool(true)
	if got := w.Done(); !bytes.Equal(got, []byte{1}) {
		t.Errorf("the first byte: %v", got)
	}
}

// P2.1: what Done returns is independent of the writer and of what Done returns at other times.
func TestDoneIsNew(t *testing.T) {
	var w Writer
	var want []byte
	var results [][]byte
	for n := range 200 {
		w.Uint(uint64(n % 50))
		want = append(want, byte(n%50))
		spoiled := w.Done()
		for i := range spoiled {
			spoiled[i] = 99
		}
		_ = append(spoiled, 98, 98)
		results = append(results, w.Done())
	}
	for n, b := range results {
		if !bytes.Equal(b, want[:n+1]) {
			t.Errorf("after %d values: %v", n+1, b)
		}
	}
}

// P2.1, R3: arguments are neither changed nor kept.
func TestWriterArguments(t *testing.T) {
	b, l := []byte{1, 2, 3, 4}, []int{5, -6, 7, 8}
	var w Writer
	w.Raw(b[:3])
	w.Ints(l[:3])
	if !bytes.Equal(b, []byte{1, 2, 3, 4}) || !slices.Equal(l, []int{5, -6, 7, 8}) {
		t.Errorf("arguments were changed: %v, %v", b, l)
	}
	b[0], l[0] = 9, 9
	if got, want := w.Done(), []byte{3, 1, 2, 3, 3, 10, 11, 14}; !bytes.Equal(got, want) {
		t.Errorf("arguments were kept: %v, want %v", got, want)
	}
}

// P2.2: later changes of the bytes do not affect the reader, and it does not change them.
func TestReadKeepsNothing(t *testing.T) {
	b := []byte{3, 1, 2, 3, 2, 97, 98, 1, 14, 1, 5, 77}
	r, untouched := Read(b[:11]), slices.Clone(b)
	if !bytes.Equal(r.Raw(), []byte{1, 2, 3}) || !bytes.Equal(b, untouched) {
		t.Error("the first value")
	}
	for i := range b {
		b[i] = 255
	}
	if s, l, ok, n := r.Text(), r.Ints(), r.Bool(), r.Uint(); s != "ab" || !slices.Equal(l, []int{7}) || !ok || n != 5 || r.End() != api.OK {
		t.Error("the values after the change:", s, l, ok, n, r.End())
	}
}

// P2.2, P2.5: results share no memory with the reader, the argument or one another.
func TestResultsShareNothing(t *testing.T) {
	b := encode([]byte{1, 2, 3}, []byte{4, 5}, []int{6, 7}, "ab")
	untouched := slices.Clone(b)
	r := Read(b)
	first := r.Raw()
	first[0] = 99
	_ = append(first, 98, 98, 98, 98)
	second := r.Raw()
	third := r.Ints()
	third[0] = 99
	if !bytes.Equal(second, []byte{4, 5}) || r.Text() != "ab" || r.End() != api.OK || !bytes.Equal(b, untouched) {
		t.Error("a changed result changes another one:", second, b)
	}
}

// P2.2: a new reader has no error.
func TestReadStart(t *testing.T) {
	for _, b := range [][]byte{nil, {}} {
		if e := Read(b).End(); e != api.OK {
			t.Errorf("End of nothing: %d", e)
		}
	}
	for _, b := range [][]byte{{0}, {255}, make([]byte, 100)} {
		if e := Read(b).End(); e != api.ErrForm {
			t.Errorf("End before %v: %d", b, e)
		}
	}
}

// P2.2: End does not record that bytes are left, and changes nothing.
func TestEndRecordsNothing(t *testing.T) {
	r := Read(encode(uint64(300), -5, true, "ab", []byte{9}, []int{1, 2}))
	left := func() {
		t.Helper()
		if r.End() != api.ErrForm || r.End() != api.ErrForm {
			t.Errorf("End while bytes are left: %d", r.End())
		}
	}
	left()
	if n := r.Uint(); n != 300 {
		t.Error("Uint", n)
	}
	left()
	if n := r.Int(); n != -5 {
		t.Error("Int", n)
	}
	left()
	if !r.Bool() {
		t.Error("Bool")
	}
	left()
	if s := r.Text(); s != "ab" {
		t.Error("Text", s)
	}
	left()
	if b := r.Raw(); !bytes.Equal(b, []byte{9}) {
		t.Error("Raw", b)
	}
	left()
	if l := r.Ints(); !slices.Equal(l, []int{1, 2}) || r.End() != api.OK || r.End() != api.OK {
		t.Error("Ints", l, r.End())
	}
	if r.Bool() || r.End() != api.ErrMore || r.End() != api.ErrMore {
		t.Error("behind the end:", r.End())
	}
}

// P2.2: after an error every method returns its zero value, and the first error stays, whatever follows.
func TestErrorStays(t *testing.T) {
	valid := encode(true, true, true, "ab", []byte{1}, []int{1})
	for _, c := range []struct {
		b    []byte
		like any
		want api.Errno
	}{
		{nil, uint64(0), api.ErrMore}, {nil, 0, api.ErrMore}, {nil, false, api.ErrMore},
		{nil, "", api.ErrMore}, {nil, []byte(nil), api.ErrMore}, {nil, []int(nil), api.ErrMore},
		{append([]byte{128, 0}, valid...), uint64(0), api.ErrForm}, {append([]byte{128, 0}, valid...), 0, api.ErrForm},
		{append([]byte{2}, valid...), false, api.ErrForm}, {append([]byte{128, 0}, valid...), "", api.ErrForm},
		{append([]byte{100}, valid...), "", api.ErrMore}, {append([]byte{100}, valid...), []byte(nil), api.ErrMore},
		{append([]byte{100}, valid...), []int(nil), api.ErrMore},
		{append([]byte{2, 2, 128, 0}, valid...), []int(nil), api.ErrForm},
	} {
		r := Read(c.b)
		for n, like := range slices.Concat([]any{c.like}, kinds(), kinds()) {
			if v := read(r, like); !equal(v, zero(like)) {
				t.Errorf("%v, %T first: value %d is %T %v", c.b, c.like, n, v, v)
			}
			if e := r.End(); e != c.want || r.End() != e {
				t.Errorf("%v, %T first: End after value %d is %d, want %d", c.b, c.like, n, e, c.want)
			}
		}
	}
}

// P2.3: cases that were worked out by hand. An examined byte can be too large or zero before it ends the varint.
func TestUint(t *testing.T) {
	high := func(count int, end ...byte) []byte { return append(bytes.Repeat([]byte{128}, count), end...) }
	full := func(count int, end ...byte) []byte { return append(bytes.Repeat([]byte{255}, count), end...) }
	for _, c := range []struct {
		b    []byte
		want uint64
		end  api.Errno
	}{
		{[]byte{0}, 0, api.OK}, {[]byte{1}, 1, api.OK}, {[]byte{127}, 127, api.OK}, {[]byte{172, 2}, 300, api.OK},
		{high(1, 1), 128, api.OK}, {high(8, 1), 1 << 56, api.OK}, {high(9, 1), 1 << 63, api.OK},
		{full(8, 127), 1<<63 - 1, api.OK}, {full(9, 1), math.MaxUint64, api.OK},
		{nil, 0, api.ErrMore}, {high(1), 0, api.ErrMore}, {full(1), 0, api.ErrMore}, {high(8), 0, api.ErrMore},
		{high(9), 0, api.ErrMore}, {full(9), 0, api.ErrMore},
		{high(1, 0), 0, api.ErrForm}, {full(1, 0), 0, api.ErrForm}, {high(8, 0), 0, api.ErrForm}, {high(9, 0), 0, api.ErrForm},
		{high(9, 2), 0, api.ErrForm}, {full(9, 2), 0, api.ErrForm}, {full(9, 127), 0, api.ErrForm},
		{high(10), 0, api.ErrForm}, {full(10), 0, api.ErrForm}, {high(10, 1), 0, api.ErrForm}, {high(9, 129), 0, api.ErrForm},
		{[]byte{5, 5}, 5, api.ErrForm}, {[]byte{0, 0}, 0, api.ErrForm}, {full(9, 1, 1), math.MaxUint64, api.ErrForm},
	} {
		r := Read(c.b)
		if got := r.Uint(); got != c.want || r.End() != c.end {
			t.Errorf("Uint of %v: %d and %d, want %d and %d", c.b, got, r.End(), c.want, c.end)
		}
	}
}

// P2.4: cases that were worked out by hand.
func TestInt(t *testing.T) {
	for _, c := range []struct {
		b    []byte
		want int
		end  api.Errno
	}{
		{[]byte{0}, 0, api.OK}, {[]byte{1}, -1, api.OK}, {[]byte{2}, 1, api.OK}, {[]byte{127}, -64, api.OK},
		{[]byte{128, 1}, 64, api.OK}, {[]byte{129, 1}, -65, api.OK},
		{[]byte{255, 255, 255, 255, 255, 255, 255, 255, 255, 1}, math.MinInt, api.OK},
		{[]byte{254, 255, 255, 255, 255, 255, 255, 255, 255, 1}, math.MaxInt, api.OK},
		{nil, 0, api.ErrMore}, {[]byte{129}, 0, api.ErrMore},
		{[]byte{128, 0}, 0, api.ErrForm}, {[]byte{129, 0}, 0, api.ErrForm}, {[]byte{129, 128, 0}, 0, api.ErrForm},
		{[]byte{255, 255, 255, 255, 255, 255, 255, 255, 255, 2}, 0, api.ErrForm},
		{[]byte{1, 1}, -1, api.ErrForm},
	} {
		r := Read(c.b)
		if got := r.Int(); got != c.want || r.End() != c.end {
			t.Errorf("Int of %v: %d and %d, want %d and %d", c.b, got, r.End(), c.want, c.end)
		}
	}
}

// P2.4: every byte; Bool reads one byte only.
func TestBool(t *testing.T) {
	if r := Read(nil); r.Bool() || r.End() != api.ErrMore {
		t.Error("Bool of nothing:", r.End())
	}
	for c := range 256 {
		want := api.OK
		if c > 1 {
			want = api.ErrForm
		}
		r := Read([]byte{byte(c)})
		if got := r.Bool(); got != (c == 1) || r.End() != want {
			t.Errorf("Bool of %d: %v and %d", c, got, r.End())
		}
		r = Read([]byte{byte(c), 1})
		if got := r.Bool(); got != (c == 1) || r.Bool() != (c < 2) || r.End() != want {
			t.Errorf("Bool of %d and 1: %v and %d", c, got, r.End())
		}
	}
}

// P2.5: cases that were worked out by hand: lengths that are too large or malformed, and elements that are.
func TestLengths(t *testing.T) {
	huge := []byte{255, 255, 255, 255, 255, 255, 255, 255, 255, 1}
	for _, c := range []struct {
		b    []byte
		like any
		want any
		end  api.Errno
	}{
		{[]byte{0}, "", "", api.OK}, {[]byte{2, 97, 98}, "", "ab", api.OK}, {[]byte{1, 97, 98}, "", "a", api.ErrForm},
		{[]byte{0}, []byte{}, []byte{}, api.OK}, {[]byte{2, 0, 255}, []byte{}, []byte{0, 255}, api.OK},
		{[]byte{1, 0, 255}, []byte{}, []byte{0}, api.ErrForm},
		{[]byte{0}, []int{}, []int{}, api.OK}, {[]byte{2, 1, 128, 1}, []int{}, []int{-1, 64}, api.OK},
		{[]byte{1, 1, 128, 1}, []int{}, []int{-1}, api.ErrForm},
		{[]byte{3, 1, 1}, "", "", api.ErrMore}, {[]byte{3, 1, 1}, []byte{}, []byte{}, api.ErrMore},
		{[]byte{3, 1, 1}, []int{}, []int{}, api.ErrMore}, {[]byte{1}, []int{}, []int{}, api.ErrMore},
		{[]byte{3, 128, 0}, []int{}, []int{}, api.ErrMore}, {[]byte{2, 128, 0}, []int{}, []int{}, api.ErrForm},
		{[]byte{2, 1, 128}, []int{}, []int{}, api.ErrMore}, {[]byte{2, 128, 1}, []int{}, []int{}, api.ErrMore},
		{[]byte{3, 2, 129, 0, 2}, []int{}, []int{}, api.ErrForm}, {[]byte{2, 129, 0, 128}, []int{}, []int{}, api.ErrForm},
		{[]byte{128}, "", "", api.ErrMore}, {[]byte{128, 0}, []byte{}, []byte{}, api.ErrForm}, {[]byte{128, 0}, []int{}, []int{}, api.ErrForm},
		{huge, "", "", api.ErrMore}, {huge, []byte{}, []byte{}, api.ErrMore}, {huge, []int{}, []int{}, api.ErrMore},
		{append(huge[:9:9], 2), "", "", api.ErrForm}, {append(huge[:9:9], 2), []int{}, []int{}, api.ErrForm},
	} {
		r := Read(c.b)
		if got := read(r, c.like); !equal(got, c.want) || r.End() != c.end {
			t.Errorf("%T of %v: %v and %d, want %v and %d", c.like, c.b, got, r.End(), c.want, c.end)
		}
	}
}

// P2.5: a length of any size is compared with the bytes that are left, and nothing is allocated for it.
func TestHugeLengths(t *testing.T) {
	for bit := 2; bit < 64; bit++ {
		for _, length := range []uint64{1 << bit, 1<<bit + 1, math.MaxUint64 - 1<<bit} {
			for _, like := range []any{"", []byte{}, []int{}} {
				r := Read(append(refUint(length), 0, 0, 0))
				if got := read(r, like); !equal(got, zero(like)) || r.End() != api.ErrMore {
					t.Errorf("%T of the length %d: %v and %d", like, length, got, r.End())
				}
			}
		}
	}
}

// P2.2 to P2.5: all short inputs, each read as each kind of value and then to its end.
func TestReadEvery(t *testing.T) {
	for b := range everyInput {
		for _, like := range kinds() {
			want, size, e := refRead(b, like)
			r := Read(b)
			got := read(r, like)
			if e == api.OK && size < len(b) {
				e = api.ErrForm
			}
			if !equal(got, want) || r.End() != e {
				t.Fatalf("%T of %v: %v and %d, want %v and %d", like, b, got, r.End(), want, e)
			}
		}
	}
}

// P2.2 to P2.5: several values in a row, from inputs that are right, cut off or spoiled.
func TestReadRows(t *testing.T) {
	r := rand.New(rand.NewSource(2))
	for range 20000 {
		values := someValues(r)
		b := encode(values...)
		for range r.Intn(3) {
			b[r.Intn(len(b))] = byte(r.Intn(256))
		}
		b = b[:len(b)-r.Intn(2)*r.Intn(len(b))]
		reader, left, first := Read(b), b, api.OK
		for _, like := range values {
			want, size, e := zero(like), 0, api.OK
			if first == api.OK {
				want, size, e = refRead(left, like)
				first = e
			}
			left = left[size:]
			if got := read(reader, like); !equal(got, want) {
				t.Fatalf("%T in %v: %v, want %v", like, b, got, want)
			}
		}
		if first == api.OK && len(left) > 0 {
			first = api.ErrForm
		}
		if e := reader.End(); e != first {
			t.Fatalf("End of %v as %T: %d, want %d", b, values, e, first)
		}
	}
}

// P2.6: each value alone, and random sequences.
func TestRoundTrip(t *testing.T) {
	check := func(values []any) {
		t.Helper()
		r := Read(encode(values...))
		for _, want := range values {
			if got := read(r, want); !equal(got, want) {
				t.Fatalf("%T %v is read as %v", want, want, got)
			}
		}
		if e := r.End(); e != api.OK {
			t.Fatalf("End after %v: %d", values, e)
		}
	}
	check(nil)
	check(testValues())
	for _, v := range testValues() {
		check([]any{v})
	}
	r := rand.New(rand.NewSource(3))
	for range 5000 {
		check(someValues(r))
	}
}

// P2.7: what is read without an error is written as the bytes that were read, for all short inputs.
func TestOneEncoding(t *testing.T) {
	count := 0
	for b := range everyInput {
		for _, first := range kinds() {
			r := Read(b)
			v := read(r, first)
			if r.End() == api.OK {
				if got := encode(v); !bytes.Equal(got, b) {
					t.Fatalf("%v is read as %T %v, which is written as %v", b, v, v, got)
				}
				count++
			}
			if len(b) > 4 {
				continue
			}
			for _, second := range kinds() {
				r := Read(b)
				v, w := read(r, first), read(r, second)
				if r.End() == api.OK {
					if got := encode(v, w); !bytes.Equal(got, b) {
						t.Fatalf("%v is read as %T %v and %T %v, which are written as %v", b, v, v, w, w, got)
					}
					count++
				}
			}
		}
	}
	if count < 1000 {
		t.Errorf("only %d inputs were read", count)
	}
}

// P2.8: every proper prefix of an encoding is incomplete.
func TestPrefixes(t *testing.T) {
	check := func(values []any) {
		t.Helper()
		b := encode(values...)
		for end := range b {
			r := Read(b[:end])
			for _, like := range values {
				read(r, like)
			}
			if e := r.End(); e != api.ErrMore {
				t.Fatalf("the first %d bytes of %v, read as %v: %d", end, b, values, e)
			}
		}
	}
	for _, v := range testValues() {
		if len(encode(v)) < 400 {
			check([]any{v})
		}
	}
	r := rand.New(rand.NewSource(4))
	for range 3000 {
		check(someValues(r))
	}
}

// P2.8: a varint has one byte for every 7 bits that are needed, at least one.
func TestVarintSize(t *testing.T) {
	size := func(n uint64) int {
		for groups := 1; groups < 10; groups++ {
			if n < 1<<(7*groups) {
				return groups
			}
		}
		return 10
	}
	for _, n := range testUints() {
		if got := len(encode(n)); got != size(n) {
			t.Errorf("%d has %d bytes, want %d", n, got, size(n))
		}
	}
	for _, n := range testInts() {
		zigzag := uint64(n) * 2
		if n < 0 {
			zigzag = -zigzag - 1
		}
		if got := len(encode(n)); got != size(zigzag) {
			t.Errorf("%d has %d bytes, want %d", n, got, size(zigzag))
		}
	}
}

// R1: writers and readers do not affect each other, and memory behind a slice does not count.
func TestIndependent(t *testing.T) {
	b := encode("ab", []int{1, -2}, true)
	first, second := Read(b), Read(b[:len(b):len(b)])
	if first.Text() != "ab" || second.Text() != "ab" || !slices.Equal(second.Ints(), []int{1, -2}) {
		t.Error("two readers of the same bytes")
	}
	if !slices.Equal(first.Ints(), []int{1, -2}) || !first.Bool() || first.End() != api.OK || second.End() != api.ErrForm {
		t.Error("two readers of the same bytes, later")
	}
	if r := Read(b[:1]); r.Text() != "" || r.End() != api.ErrMore {
		t.Error("bytes behind the slice were read")
	}
	var v, w Writer
	v.Int(1)
	w.Int(2)
	v.Int(3)
	if !bytes.Equal(v.Done(), []byte{2, 6}) || !bytes.Equal(w.Done(), []byte{4}) {
		t.Error("two writers:", v.Done(), w.Done())
	}
}

// P1: long values, to an end and without a panic.
func TestLong(t *testing.T) {
	long := strings.Repeat("0123456789", 1<<17)
	l := slices.Repeat(testInts(), 1<<9)
	r := Read(encode(long, []byte(long), l))
	if r.Text() != long || string(r.Raw()) != long || !slices.Equal(r.Ints(), l) || r.End() != api.OK {
		t.Error("long values")
	}
}

// The examples of the chapter.
func TestChapterExamples(t *testing.T) {
	if !bytes.Equal(encode(uint64(300)), []byte{172, 2}) || !bytes.Equal(encode(-1), []byte{1}) || !bytes.Equal(encode("ab"), []byte{2, 97, 98}) {
		t.Error("the writer")
	}
	r := Read([]byte{128, 0})
	if r.Int() != 0 || r.End() != api.ErrForm {
		t.Error("the reader:", r.End())
	}
}

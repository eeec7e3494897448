package hash

import (
	"bytes"
	"math"
	"math/rand"
	"slices"
	"strings"
	"testing"
)

// The reference follows the chapter word by word and shares no code with the package.

func refMix(s, w uint64) uint64 {
	m := (s ^ w) * 0x9E3779B97F4A7C15
	return m ^ (m >> 32)
}

func refWords(b []byte) []uint64 {
	padded := append(slices.Clone(b), make([]byte, (8-len(b)%8)%8)...)
	var list []uint64
	for i := 0; i < len(padded); i += 8 {
		var w uint64
		for j := 7; j >= 0; j-- {
			w = w*256 + uint64(padded[i+j])
		}
		list = append(list, w)
	}
	return list
}

func refSum(label string, words ...int) uint64 {
	list := refWords([]byte(label))
	list = append(list, uint64(len(label)), uint64(len(words)))
	for _, w := range words {
		list = append(list, uint64(w))
	}
	var s uint64
	for _, w := range append(list, 0) {
		s = refMix(s, w)
	}
	return s
}

// refUnmix returns the state before the word w was mixed in, if the state after it is s.
func refUnmix(s, w uint64) uint64 {
	m := s ^ s>>32
	inverse := uint64(1)
	for range 6 { // each round doubles the number of low bits that are right
		inverse *= 2 - 0x9E3779B97F4A7C15*inverse
	}
	return m*inverse ^ w
}

func testLabels() []string {
	return []string{"", "a", "\x00", "\x00\x00", "pair", "abcdefg", "abcdefgh", "abcdefghi", "grüße, 世界", strings.Repeat("x", 16), strings.Repeat("\xff", 33)}
}

func testWords() [][]int {
	return [][]int{
		nil, {0}, {1}, {-1}, {0, 0}, {0, 0, 0}, {5}, {6}, {1, 2, 3}, {3, 2, 1}, {-1, -2, -3},
		{math.MinInt}, {math.MaxInt}, {math.MinInt, math.MaxInt, -1, 0, 1}, {1 << 32, -1 << 32, 1<<32 - 1},
		{0x61, 1}, {7, 7, 7, 7, 7, 7, 7, 7, 7},
	}
}

func someBytes(r *rand.Rand, n int) []byte {
	b := make([]byte, n)
	r.Read(b)
	return b
}

func someWords(r *rand.Rand, n int) []int {
	list := make([]int, n)
	for i := range list {
		list[i] = int(r.Uint64())
	}
	return list
}

// P1.1: values that were computed from the definition by another program.
func TestSumValues(t *testing.T) {
	for _, c := range []struct {
		label string
		words []int
		want  uint64
	}{
		{"", nil, 0},
		{"", []int{0}, 0x9c60c22591400851},
		{"a", nil, 0x80b5f6f3a21f8298},
		{"a", []int{5}, 0xdbbe367e93b58544},
		{"a", []int{6}, 0x49fc8178b938ecaf},
		{"a", []int{-1}, 0x09ee594d249f2a64},
		{"a", []int{math.MinInt, math.MaxInt}, 0xd44abd7a8ac43800},
		{"a", []int{1, 2, 3}, 0x2928cf4a8a2b11de},
		{"abcdefgh", []int{1}, 0xf7d2778465f94f8f},
		{"abcdefghi", []int{1}, 0x06e680cadd1c951d},
		{"grüße", []int{7}, 0xe6a8e39eebde5502},
		{"\x00", nil, 0x9c60c22591400851},
		{"\x00\x00", nil, 0xd5fba65e42dcd141},
	} {
		if got := Sum(c.label, c.words...); got != c.want {
			t.Errorf("Sum(%q, %v) = %#x, want %#x", c.label, c.words, got, c.want)
		}
	}
}

// P1.1: ordinary, empty and extreme arguments.
func TestSumDefinition(t *testing.T) {
	for _, label := range testLabels() {
		for _, words := range testWords() {
			if got, want := Sum(label, words...), refSum(label, words...); got != want {
				t.Errorf("Sum(%q, %v) = %#x, want %#x", label, words, got, want)
			}
		}
	}
	r := rand.New(rand.NewSource(1))
	for n := range 300 {
		label, words := string(someBytes(r, n%40)), someWords(r, n%23)
		if got, want := Sum(label, words...), refSum(label, words...); got != want {
			t.Errorf("Sum(%q, %v) = %#x, want %#x", label, words, got, want)
		}
	}
}

// P1.2: values that were computed from the definition by another program.
func TestBytesValues(t *testing.T) {
	for _, c := range []struct {
		label string
		b     []byte
		want  uint64
	}{
		{"", nil, 0x9c60c22591400851},
		{"a", nil, 0xaeccc2c435d70264},
		{"a", []byte{1, 2}, 0x5cd85cbd93fd0838},
		{"a", []byte{1, 2, 3, 4, 5, 6, 7, 8}, 0x4657d4f381db6fb8},
		{"a", []byte{1, 2, 3, 4, 5, 6, 7, 8, 9}, 0x193354c4b2cf0c3e},
		{"abcdefghi", bytes.Repeat([]byte{255}, 16), 0xeb6dc8566b190d47},
		{"a", make([]byte, 8), 0xc8f74304dc7d41ab},
		{"a", make([]byte, 9), 0xc150a1705a1c84e5},
	} {
		if got := Bytes(c.label, c.b); got != c.want {
			t.Errorf("Bytes(%q, %v) = %#x, want %#x", c.label, c.b, got, c.want)
		}
	}
}

// P1.2: Bytes is Sum of the words and the length, for lengths that are and are not multiples of 8.
func TestBytesIsSum(t *testing.T) {
	r := rand.New(rand.NewSource(2))
	for _, label := range testLabels() {
		for n := range 70 {
			for _, b := range [][]byte{someBytes(r, n), make([]byte, n), bytes.Repeat([]byte{255}, n)} {
				var words []int
				for _, w := range refWords(b) {
					words = append(words, int(w))
				}
				words = append(words, n)
				got := Bytes(label, b)
				if got != Sum(label, words...) || got != refSum(label, words...) {
					t.Errorf("Bytes(%q, %v) = %#x, want %#x", label, b, got, refSum(label, words...))
				}
			}
		}
	}
}

// P1.2: zero bytes at the end count, although the last group is padded with them.
func TestBytesPadding(t *testing.T) {
	for _, start := range []string{"", "a", "abcdefgh", "abcdefghi"} {
		seen := map[uint64]int{}
		for zeros := range 40 {
			h := Bytes("a", append([]byte(start), make([]byte, zeros)...))
			if other, ok := seen[h]; ok {
				t.Errorf("%q with %d and with %d zero bytes has the hash %#x", start, other, zeros, h)
			}
			seen[h] = zeros
		}
	}
}

// P1.2: Pair is Sum with the label pair, for words on both sides of 2^63.
func TestPairIsSum(t *testing.T) {
	for _, c := range []struct{ a, b, want uint64 }{
		{0, 0, 0xa37203a6cd944451},
		{1, 2, 0xd5e6a2a3a39a5df8},
		{2, 1, 0x9a705c9df9b46602},
		{math.MaxUint64, 0, 0x53ab7154474e5d4f},
		{1 << 63, 5, 0xd2e16b299fbc35d0},
	} {
		if got := Pair(c.a, c.b); got != c.want {
			t.Errorf("Pair(%d, %d) = %#x, want %#x", c.a, c.b, got, c.want)
		}
	}
	r := rand.New(rand.NewSource(3))
	for range 300 {
		a, b := r.Uint64(), r.Uint64()
		got := Pair(a, b)
		if got != Sum("pair", int(a), int(b)) || got != refSum("pair", int(a), int(b)) {
			t.Errorf("Pair(%d, %d) = %#x", a, b, got)
		}
	}
}

// P1.3: a change of any bit of one element changes the sum.
func TestSumChangedElement(t *testing.T) {
	r := rand.New(rand.NewSource(4))
	for _, label := range testLabels() {
		for n := 1; n < 9; n++ {
			words := someWords(r, n)
			seen := map[uint64]bool{Sum(label, words...): true}
			for i := range words {
				for bit := range 64 {
					changed := slices.Clone(words)
					changed[i] ^= 1 << bit
					seen[Sum(label, changed...)] = true
				}
				if len(seen) != 65 {
					t.Errorf("Sum(%q, %v): element %d gives %d sums of 65", label, words, i, len(seen))
				}
				seen = map[uint64]bool{Sum(label, words...): true}
			}
		}
	}
}

// P1.3: many values of one element, all with different sums.
func TestSumManyValues(t *testing.T) {
	for i := range 3 {
		seen := map[uint64]bool{}
		for v := -1 << 14; v < 1<<14; v++ {
			words := []int{math.MinInt, -7, math.MaxInt}
			words[i] = v
			seen[Sum("many", words...)] = true
		}
		if len(seen) != 1<<15 {
			t.Errorf("element %d: %d sums of %d values", i, len(seen), 1<<15)
		}
	}
}

// P1.3: for a fixed state before it, an element can be told from the sum and the elements behind it.
func TestSumTellsElement(t *testing.T) {
	r := rand.New(rand.NewSource(5))
	for n := 1; n < 12; n++ {
		words := someWords(r, n)
		for i, want := range words {
			s := refUnmix(Sum("tell", words...), 0)
			for _, w := range slices.Backward(words[i+1:]) {
				s = refUnmix(s, uint64(w))
			}
			var before uint64
			for _, w := range append(refWords([]byte("tell")), 4, uint64(n)) {
				before = refMix(before, w)
			}
			for _, w := range words[:i] {
				before = refMix(before, uint64(w))
			}
			if got := int(refUnmix(s, 0) ^ before); got != want {
				t.Errorf("element %d of %v: %d", i, words, got)
			}
		}
	}
}

// P1.3: mixing is a bijection of the state and of the word, so that both can be told from its result.
func TestMixIsBijection(t *testing.T) {
	r := rand.New(rand.NewSource(6))
	pairs := [][2]uint64{{0, 0}, {0, 1}, {1, 0}, {math.MaxUint64, 0}, {0, math.MaxUint64}, {1 << 63, 1 << 63}, {1 << 32, 1<<32 - 1}}
	for range 1000 {
		pairs = append(pairs, [2]uint64{r.Uint64(), r.Uint64()})
	}
	for _, p := range pairs {
		after := mix(p[0], p[1])
		if refUnmix(after, p[1]) != p[0] || refUnmix(after, p[0]) != p[1] {
			t.Errorf("mix(%#x, %#x) = %#x", p[0], p[1], after)
		}
	}
}

// P1.3: byte slices that differ within one group have different hashes; so have labels.
func TestChangedGroup(t *testing.T) {
	r := rand.New(rand.NewSource(7))
	for n := 1; n < 35; n++ {
		b := someBytes(r, n)
		for group := 0; group < n; group += 8 {
			size := min(8, n-group)
			hashes := map[uint64]bool{Bytes("b", b): true}
			sums := map[uint64]bool{Sum(string(b), 1, 2): true}
			for bit := range 8 * size {
				changed := bytes.Clone(b)
				changed[group+bit/8] ^= 1 << (bit % 8)
				hashes[Bytes("b", changed)] = true
				sums[Sum(string(changed), 1, 2)] = true
			}
			if len(hashes) != 8*size+1 || len(sums) != 8*size+1 {
				t.Errorf("%d bytes, group at %d: %d hashes and %d sums of %d", n, group, len(hashes), len(sums), 8*size+1)
			}
		}
	}
}

// P1.3: different changes within one group, of several bytes at once, also give different hashes.
func TestChangedBytesOfGroup(t *testing.T) {
	r := rand.New(rand.NewSource(8))
	for _, n := range []int{2, 8, 11, 16, 24, 31} {
		b := someBytes(r, n)
		group := (n - 1) / 8 * 8
		hashes, sums := map[uint64]bool{}, map[uint64]bool{}
		for v := range 1 << 14 {
			b[group], b[n-1] = byte(v), byte(v>>8)
			hashes[Bytes("b", b)] = true
			sums[Sum(string(b))] = true
		}
		if len(hashes) != 1<<14 || len(sums) != 1<<14 {
			t.Errorf("%d bytes: %d hashes and %d sums of %d", n, len(hashes), len(sums), 1<<14)
		}
	}
}

// P1.4: each argument of Pair can be told from the result and the other argument.
func TestPairTellsArguments(t *testing.T) {
	var start uint64
	for _, w := range append(refWords([]byte("pair")), 4, 2) {
		start = refMix(start, w)
	}
	r := rand.New(rand.NewSource(9))
	for range 1000 {
		a, b := r.Uint64(), r.Uint64()
		s := refUnmix(Pair(a, b), 0)
		if got := refUnmix(refUnmix(s, b), 0) ^ start; got != a {
			t.Errorf("Pair(%#x, %#x): first argument %#x", a, b, got)
		}
		if got := refUnmix(s, 0) ^ refMix(start, a); got != b {
			t.Errorf("Pair(%#x, %#x): second argument %#x", a, b, got)
		}
	}
}

// P1.4: many values of each argument, all with different results.
func TestPairInjective(t *testing.T) {
	for _, fixed := range []uint64{0, 1, 7, 1 << 32, 1 << 63, math.MaxUint64} {
		first, second := map[uint64]bool{}, map[uint64]bool{}
		count := 0
		for v := range uint64(1 << 12) {
			for _, x := range []uint64{v, v<<32 | 1<<63, ^v} {
				first[Pair(x, fixed)] = true
				second[Pair(fixed, x)] = true
				count++
			}
		}
		if len(first) != count || len(second) != count {
			t.Errorf("fixed %d: %d and %d results of %d", fixed, len(first), len(second), count)
		}
	}
}

// R1: results depend on neither earlier calls nor the memory behind a slice.
func TestSameAgain(t *testing.T) {
	long := []byte("abcdefghijklmnopqrstuvwxyz")
	for n := range len(long) {
		want := Bytes("again", bytes.Clone(long[:n]))
		Sum("other", n)
		if Bytes("again", long[:n]) != want || Bytes("again", long[:n:n]) != want {
			t.Errorf("Bytes of %q depends on what lies behind it", long[:n])
		}
	}
	words := []int{1, 2, 3, 4, 5}
	for n := range len(words) {
		want := Sum("again", slices.Clone(words[:n])...)
		Pair(1, 2)
		if Sum("again", words[:n]...) != want || Sum("again", words[:n:n]...) != want {
			t.Errorf("Sum of %v depends on what lies behind it", words[:n])
		}
	}
}

// R3: nil and empty slices are equivalent, and arguments are not changed.
func TestArguments(t *testing.T) {
	for _, label := range testLabels() {
		if Bytes(label, nil) != Bytes(label, []byte{}) || Bytes(label, nil) != Sum(label, 0) {
			t.Errorf("Bytes(%q) of nothing", label)
		}
		if Sum(label) != Sum(label, []int{}...) || Sum(label) != Sum(label, []int(nil)...) {
			t.Errorf("Sum(%q) of nothing", label)
		}
	}
	words := []int{3, -1, 2}
	b := []byte("abcdefghijk")
	Sum("keep", words...)
	Sum("keep", words[:1]...)
	Bytes("keep", b)
	Bytes("keep", b[:5])
	if !slices.Equal(words, []int{3, -1, 2}) || string(b) != "abcdefghijk" {
		t.Errorf("arguments were changed: %v, %q", words, b)
	}
}

// P1: long arguments, to an end and without a panic.
func TestLong(t *testing.T) {
	b := bytes.Repeat([]byte("0123456789"), 1<<17)
	var words []int
	for _, w := range refWords(b) {
		words = append(words, int(w))
	}
	if Bytes("long", b) != Sum("long", append(words, len(b))...) {
		t.Error("Bytes of a long slice")
	}
	if Sum(string(b), 1) != refSum(string(b), 1) {
		t.Error("Sum with a long label")
	}
}

// The examples of the chapter.
func TestChapterExamples(t *testing.T) {
	if Sum("a", 5) == Sum("a", 6) {
		t.Error("5 and 6 have the same sum")
	}
	if Bytes("a", []byte{1, 2}) != Sum("a", 513, 2) {
		t.Error("bytes 1 and 2")
	}
}

// Words is the chapter's term: little-endian groups of 8 bytes, padded; the loop over them may end early.
func TestWords(t *testing.T) {
	for n := range 40 {
		b := bytes.Repeat([]byte{0x80, 1, 0xff}, 14)[:n]
		if got := slices.Collect(wordsOf(b)); !slices.Equal(got, refWords(b)) {
			t.Errorf("words of %v: %v", b, got)
		}
	}
	count := 0
	for range wordsOf(make([]byte, 30)) {
		count++
		if count == 2 {
			break
		}
	}
	if count != 2 {
		t.Errorf("%d words before the end", count)
	}
}

package syntax_test

import (
	"math/rand"
	"reflect"
	"slices"
	"strconv"
	"strings"
	"testing"

	"priorart/api"
	"priorart/formula"
	"priorart/syntax"
)

var vocab = syntax.Vocab{Classes: []string{"pen", "cap", "lid"}, Attrs: []string{"width", "hue"}}

// junk is a vocabulary with one error of each kind, and the error that comes first.
var junk = []struct {
	v    syntax.Vocab
	want api.Errno
}{
	{syntax.Vocab{Classes: make([]string, 65)}, api.ErrLimit},
	{syntax.Vocab{Attrs: []string{"Pen"}}, api.ErrName},
	{syntax.Vocab{Classes: []string{"pen"}, Attrs: []string{"pen"}}, api.ErrTwice},
}

func class(n int) api.Formula { return api.Formula{Op: api.OpClass, N: n} }

func with(op int, kids ...api.Formula) api.Formula { return api.Formula{Op: op, Kids: kids} }

func width(l ...api.Interval) api.Formula { return api.Formula{Op: api.OpValue, In: l} }

func same(a, b api.Formula) bool { return formula.Compare(a, b) == 0 }

// zero reports whether a formula is the zero value, so that it stands for nothing.
func zero(f api.Formula) bool { return f.Op == 0 && f.N == 0 && len(f.In) == 0 && len(f.Kids) == 0 }

// chain returns an operation of an operation, and so on, of a formula.
func chain(op, times int, f api.Formula) api.Formula {
	for range times {
		f = with(op, f)
	}
	return f
}

// names returns different names.
func names(count int, prefix string) []string {
	var l []string
	for i := range count {
		l = append(l, prefix+strconv.Itoa(i))
	}
	return l
}

// comparer compares Parse and Claim with the reference.
func comparer(t *testing.T, v syntax.Vocab) func(s string) (at int, e api.Errno) {
	return func(s string) (int, api.Errno) {
		f, at, e := syntax.Parse(v, s)
		if g, wantAt, want := refParse(v, s); at != wantAt || e != want || !same(f, g) {
			t.Fatalf("Parse(%q): %v %d %d, not %v %d %d", s, f, at, e, g, wantAt, want)
		}
		c, claimAt, claimE := syntax.Claim(v, s)
		d, wantAt, want := refClaim(v, s)
		if claimAt != wantAt || claimE != want || !slices.Equal(c.Refs, d.Refs) || !same(c.Body, d.Body) {
			t.Fatalf("Claim(%q): %v %d %d, not %v %d %d", s, c, claimAt, claimE, d, wantAt, want)
		}
		return claimAt, claimE
	}
}

// P8.1

func TestNames(t *testing.T) {
	try := func(s string) {
		for _, v := range []syntax.Vocab{{Classes: []string{s}}, {Attrs: []string{s}}, {Classes: []string{"pen", s}, Attrs: []string{"hue"}}, {Classes: []string{"pen"}, Attrs: []string{"hue", s}}} {
			if e, want := syntax.Valid(v), refValid(v); e != want {
				t.Errorf("%q: %d, not %d", v, e, want)
			}
		}
	}
	for b := range 256 {
		c := string([]byte{byte(b)})
		for _, s := range []string{c, c + "a", "a" + c, "a" + c + "a", "-" + c, strings.Repeat("a", 15) + c, strings.Repeat("a", 16) + c} {
			try(s)
		}
	}
	for i := range 40 {
		try(strings.Repeat("a", i))
		try("a" + strings.Repeat("-", i))
		try("a" + strings.Repeat("1", i))
		try(strings.Repeat("\u00e4", i))
	}
	for _, s := range strings.Fields(keywords) {
		try(s)
		try(s + "s")
		try(strings.ToUpper(s))
		if syntax.Valid(syntax.Vocab{Attrs: []string{s}}) != api.ErrName {
			t.Error(s)
		}
	}
	for _, s := range []string{"if", "true", "false", "is", "has", "the", "xor", "nothing", "none", "a", "z9-", "a--", "al", "alls", "p-art"} {
		if e := syntax.Valid(syntax.Vocab{Classes: []string{s}}); e != api.OK {
			t.Error(s, e)
		}
	}
}

func TestVocabularies(t *testing.T) {
	two := func(classes, attrs []string) syntax.Vocab { return syntax.Vocab{Classes: classes, Attrs: attrs} }
	many, few := names(64, "c"), names(32, "a")
	for i, x := range []struct {
		v    syntax.Vocab
		want api.Errno
	}{
		{two(nil, nil), api.OK},
		{two([]string{}, []string{}), api.OK},
		{two(many, few), api.OK},
		{two(names(65, "c"), few), api.ErrLimit},
		{two(many, names(33, "a")), api.ErrLimit},
		{two(names(33, "c"), nil), api.OK},
		{two(nil, names(64, "a")), api.ErrLimit},
		{two(names(65, "-"), nil), api.ErrLimit},
		{two([]string{"-"}, names(33, "a")), api.ErrLimit},
		{two(slices.Repeat([]string{"pen"}, 65), nil), api.ErrLimit},
		{two(slices.Repeat([]string{"pen"}, 64), nil), api.ErrTwice},
		{two([]string{"pen", "pen", "-"}, nil), api.ErrName},
		{two([]string{"pen", "pen"}, []string{"of"}), api.ErrName},
		{two([]string{"pen", "cap", "pen"}, nil), api.ErrTwice},
		{two(nil, []string{"hue", "width", "hue"}), api.ErrTwice},
		{two([]string{"pen", "cap"}, []string{"hue", "cap"}), api.ErrTwice},
		{two([]string{"of"}, []string{"of"}), api.ErrName},
		{two(append(names(63, "c"), "all"), nil), api.ErrName},
		{two(many, append(names(31, "a"), "c63")), api.ErrTwice},
	} {
		if e := syntax.Valid(x.v); e != x.want || refValid(x.v) != x.want {
			t.Error(i, e)
		}
	}
}

func TestVocabulariesFirst(t *testing.T) {
	long, bad := strings.Repeat("-", 5000), api.Formula{Op: -1}
	for i, x := range junk {
		for _, s := range []string{"pen", "", "of 1: pen", "   #", long} {
			if f, at, e := syntax.Parse(x.v, s); e != x.want || at != 0 || !zero(f) {
				t.Error(i, s, f, at, e)
			}
			if c, at, e := syntax.Claim(x.v, s); e != x.want || at != 0 || len(c.Refs) != 0 || !zero(c.Body) {
				t.Error(i, s, c, at, e)
			}
		}
		for _, f := range []api.Formula{{}, bad, class(3), class(63), with(api.OpAnd, bad)} {
			if s, e := syntax.Print(x.v, f); e != x.want || s != "" {
				t.Error(i, s, e)
			}
			for _, refs := range [][]int{nil, {1}, {2, 1}, {-1}} {
				if s, e := syntax.PrintClaim(x.v, api.Claim{Refs: refs, Body: f}); e != x.want || s != "" {
					t.Error(i, s, e)
				}
			}
		}
	}
}

// P8.2

func TestExamples(t *testing.T) {
	half := api.Interval{Lo: api.Ratio{Num: 1, Den: 1}, Hi: api.Ratio{Num: 3, Den: 2}, HiOpen: true}
	for _, x := range []struct {
		text string
		want api.Formula
	}{
		{"pen and width in {[1,3/2)} and not part cap", with(api.OpAnd, class(0), width(half), with(api.OpNot, with(api.OpPart, class(1))))},
		{"any()", with(api.OpOr)},
		{"all()", with(api.OpAnd)},
		{"any(pen)", with(api.OpOr, class(0))},
		{"thing", api.Formula{}},
		{"lid", class(2)},
		{"((lid))", class(2)},
		{"pen or cap or pen", with(api.OpOr, class(0), class(1), class(0))},
		{"pen or (cap or pen)", with(api.OpOr, class(0), with(api.OpOr, class(1), class(0)))},
		{"(pen and cap) or lid", with(api.OpOr, with(api.OpAnd, class(0), class(1)), class(2))},
		{"not pen and cap", with(api.OpAnd, with(api.OpNot, class(0)), class(1))},
		{"part pen or cap", with(api.OpOr, with(api.OpPart, class(0)), class(1))},
		{"not (pen and cap)", with(api.OpNot, with(api.OpAnd, class(0), class(1)))},
		{"all(pen,cap or lid,any())", with(api.OpAnd, class(0), with(api.OpOr, class(1), class(2)), with(api.OpOr))},
		{"all(pen and cap)", with(api.OpAnd, with(api.OpAnd, class(0), class(1)))},
		{"any((pen))", with(api.OpOr, class(0))},
		{"all(pen) and cap", with(api.OpAnd, with(api.OpAnd, class(0)), class(1))},
		{"width in {}", width()},
		{"hue in {(*,*)}", api.Formula{Op: api.OpValue, N: 1, In: []api.Interval{{LoInf: true, HiInf: true}}}},
		{"width in {(*,-1.25];[0,0];(1/3,2/4)}", width(
			api.Interval{LoInf: true, Hi: api.Ratio{Num: -5, Den: 4}},
			api.Interval{Lo: api.Ratio{Num: 0, Den: 1}, Hi: api.Ratio{Num: 0, Den: 1}},
			api.Interval{Lo: api.Ratio{Num: 1, Den: 3}, Hi: api.Ratio{Num: 1, Den: 2}, LoOpen: true, HiOpen: true},
		)},
		{"width in {[1,*)}", width(api.Interval{Lo: api.Ratio{Num: 1, Den: 1}, HiInf: true})},
	} {
		f, at, e := syntax.Parse(vocab, x.text)
		if e != api.OK || at != 0 || !same(f, x.want) {
			t.Error(x.text, f, at, e)
		}
		c, at, e := syntax.Claim(vocab, x.text)
		if e != api.OK || at != 0 || len(c.Refs) != 0 || !same(c.Body, x.want) {
			t.Error(x.text, c, at, e)
		}
	}
}

func TestErrors(t *testing.T) {
	for _, x := range []struct {
		text string
		at   int
		want api.Errno
	}{
		{"pen or cap and pen", 11, api.ErrForm}, {"pen or lad", 7, api.ErrName}, {"   ", 3, api.ErrForm},
		{"pen  ", 0, api.OK}, {"pen and  ", 9, api.ErrForm}, {"thing thing", 6, api.ErrForm}, {"pen of", 4, api.ErrForm},
		{"of", 0, api.ErrForm}, {"in", 0, api.ErrForm}, {"or", 0, api.ErrForm}, {"not and", 4, api.ErrForm},
		{"not", 3, api.ErrForm}, {"part ", 5, api.ErrForm}, {"part in", 5, api.ErrForm}, {"part xyz", 5, api.ErrName},
		{"all", 3, api.ErrForm}, {"all pen", 4, api.ErrForm}, {"all xyz", 4, api.ErrForm}, {"all(", 4, api.ErrForm},
		{"all(xyz", 4, api.ErrName}, {"all(,", 4, api.ErrForm}, {"all(pen cap)", 8, api.ErrForm}, {"all(pen,xyz", 8, api.ErrName},
		{"all()()", 5, api.ErrForm}, {"()", 1, api.ErrForm}, {"(pen,cap)", 4, api.ErrForm}, {"(pen))", 5, api.ErrForm},
		{"allpen", 0, api.ErrName}, {"not-pen", 0, api.ErrName}, {"pen1", 0, api.ErrName}, {"pen-", 0, api.ErrName},
		{"abcdefghijklmnopqrstuvwxyz", 0, api.ErrName}, {"xyz and", 0, api.ErrName}, {"xyz in {}", 0, api.ErrName},
		{"width xyz", 6, api.ErrForm}, {"width and", 6, api.ErrForm}, {"width in", 8, api.ErrForm}, {"width in xyz", 9, api.ErrForm},
		{"width in (", 9, api.ErrForm}, {"width in {{", 10, api.ErrForm}, {"width in {1", 10, api.ErrForm}, {"width in {*", 10, api.ErrForm},
		{"width in {[", 11, api.ErrForm}, {"width in {[]", 11, api.ErrForm}, {"width in {[x", 11, api.ErrForm}, {"width in {(*]", 12, api.ErrForm},
		{"width in {[1 2", 13, api.ErrForm}, {"width in {[1;", 12, api.ErrForm}, {"width in {[1,]", 13, api.ErrForm}, {"width in {[1,2}", 14, api.ErrForm},
		{"width in {[1,2] [", 16, api.ErrForm}, {"width in {[1,2],", 15, api.ErrForm}, {"width in {;", 10, api.ErrForm}, {"width in {[1,2];;", 16, api.ErrForm},
		{"width in {[1,2]} 3", 17, api.ErrForm}, {"width in {} {", 12, api.ErrForm}, {"width in {[1,2]", 15, api.ErrForm}, {"width in {[1,*]}", 14, api.ErrForm},
		{"width in {[1.,2]}", 11, api.ErrForm}, {"width in {[1/2/3,2]}", 11, api.ErrForm}, {"width in {[--1,2]}", 11, api.ErrForm}, {"width in {[-,2]}", 11, api.ErrForm},
		{"width in {[.5,2]}", 11, api.ErrForm}, {"width in {[/2,2]}", 11, api.ErrForm}, {"width in {[1-2,3]}", 11, api.ErrForm}, {"width in {[1,1.1234567]}", 13, api.ErrForm},
		{"width in {[1,5/0]", 13, api.ErrArg}, {"width in {[0/0,1.#", 11, api.ErrArg}, {"width in {[1,1099511627777]}", 13, api.ErrRange}, {"width in {[1/1048577,2]}", 11, api.ErrRange},
		{"width in {[1099511627776,1099511627776]}", 9, api.ErrArg}, {"width in {[0,1/65536]}", 9, api.ErrArg}, {"width in {[1073741824,1073741824]}", 0, api.OK},
		{"width in {(1,1]} #", 9, api.ErrArg}, {"width in {[2,1]", 15, api.ErrForm}, {"width in {[1,2];[2,3]} xyz", 9, api.ErrArg}, {"width in {[3,4];[1,2]}", 9, api.ErrArg},
		{"width in { [1,2]; (2,3] }", 9, api.ErrArg}, {"pen and  hue in  {(5,4)} and", 17, api.ErrArg}, {"hue in {} or width in {(1,1)}", 22, api.ErrArg},
		{"1", 0, api.ErrForm}, {"-", 0, api.ErrForm}, {"pen 1", 4, api.ErrForm}, {"*", 0, api.ErrForm}, {"[", 0, api.ErrForm}, {"_", 0, api.ErrForm},
		{"pen\tand cap", 3, api.ErrForm}, {"pen\n", 3, api.ErrForm}, {"\u00a0pen", 0, api.ErrForm}, {"pen and Cap", 8, api.ErrForm}, {"peN", 0, api.ErrName}, {"penN", 3, api.ErrForm}, {"pen and p\u00e9n", 8, api.ErrName},
		{"pen\x00", 3, api.ErrForm}, {"pen\xff", 3, api.ErrForm}, {"pen:", 3, api.ErrForm}, {"pen and :", 8, api.ErrForm},
		{"not not not not not not not pen", 0, api.OK}, {"not not not not not not not not pen  ", 37, api.ErrLimit}, {"not not not not not not not not xyz", 32, api.ErrName}, {"not not not not not not not not pen pen", 36, api.ErrForm},
	} {
		f, at, e := syntax.Parse(vocab, x.text)
		if e != x.want || at != x.at || e != api.OK && !zero(f) {
			t.Errorf("%q: %v %d %d", x.text, f, at, e)
		}
		if _, at, e := refParse(vocab, x.text); e != x.want || at != x.at {
			t.Errorf("%q: the reference has %d %d", x.text, at, e)
		}
	}
}

// walk tries all texts of some tokens, as far as the reference has no error before their last token.
func walk(try func(s string) (int, api.Errno), begin string, tokens []string, most int) {
	for _, t := range tokens {
		s := begin + t
		at, e := try(s)
		if most > 1 && (e == api.OK || at == len(s)) {
			walk(try, s, tokens, most-1)
		}
	}
}

func TestShortTexts(t *testing.T) {
	try := comparer(t, vocab)
	try("")
	every := []string{" pen", " width", " xyz", " thing", " part", " not", " all", " any", " and", " or", " in", " of", " 1", " 1/0", "(", ")", "[", "]", "{", "}", ",", ";", ":", "*", "#", " ", " (*,1]"}
	walk(try, "", every, 4)
	few := []string{" pen", " xyz", " not", " any", " and", " or", "(", ")", ","}
	walk(try, "", few, 7)
	walk(try, "all(pen", few, 5)
	walk(try, "(pen or cap", few, 5)
	walk(try, "width in{", []string{"[", "(", "]", ")", ",", ";", "}", "*", "1", "-2 ", "3/0", "x", " and"}, 6)
	walk(try, "width in{[1,2]", []string{"[", "(", "]", ")", ",", ";", "}", "*", "2", "3", "1-", "and pen"}, 7)
	walk(try, "of", []string{" of", " 0", " 1", " 31", " 32", "04", "100", "-1", "1/2", "5/0", "2.0", ",", ":", " pen", " xyz", " and", "*", " "}, 5)
}

func TestBytes(t *testing.T) {
	try := comparer(t, vocab)
	for b := range 256 {
		c := string([]byte{byte(b)})
		for _, s := range []string{"", "pen", "pen ", "pen and cap", "width in {[1,2)}", "all(pen)", "of 1: pen", "1", "-"} {
			for i := range len(s) + 1 {
				try(s[:i] + c + s[i:])
				try(s[:i] + c + c + s[i:])
			}
			for i := range len(s) {
				try(s[:i] + c + s[i+1:])
			}
		}
	}
}

func TestRandomTexts(t *testing.T) {
	r := rand.New(rand.NewSource(8))
	try := comparer(t, vocab)
	pieces := []string{"", " ", "pen", "xyz", "and", "or", "(", ")", ",", "not ", "{", "}", "[1,2]", "(*", "*)", ";", "1", "0/0", "width in ", "of ", ":", "\x00", "Z"}
	good := 0
	for range 20000 {
		f := randomFormula(vocab, r, 1+r.Intn(6))
		l := wording(vocab, f, r)
		s := scattered(l, r)
		if g, at, e := syntax.Parse(vocab, s); e != api.OK || at != 0 || !same(f, g) {
			t.Fatal(s, f, g, at, e)
		}
		if r.Intn(3) == 0 {
			s = "of " + strconv.Itoa(r.Intn(4)) + " ," + strconv.Itoa(r.Intn(35)) + ": " + s
		}
		try(s)
		i, j := r.Intn(len(s)+1), r.Intn(len(s)+1)
		try(s[:i] + pieces[r.Intn(len(pieces))] + s[i:])
		try(s[:min(i, j)] + pieces[r.Intn(len(pieces))] + s[max(i, j):])
		if _, e := try(s[:i] + s[j:]); e == api.OK {
			good++
		}
	}
	if good < 100 {
		t.Error(good)
	}
}

func TestTextLimits(t *testing.T) {
	try := comparer(t, vocab)
	pad := strings.Repeat
	for _, s := range []string{
		pad(" ", 4093) + "pen", "pen" + pad(" ", 4093), pad(" ", 4096), pad(" ", 4094) + "pen", pad(" ", 4097), pad("#", 4097), pad("a", 4096), pad("a", 4097), pad("a", 1<<20),
		pad("(", 4096), pad("(", 2046) + "pen" + pad(")", 2046), pad("(", 2046) + "pen" + pad(")", 2047), pad("(", 2047) + "thing" + pad(")", 2046),
		pad("not ", 1023) + "pen", pad("part ", 818) + "pen", pad("not ", 1023) + "xyz", pad("all(", 800) + pad(")", 800), pad("all(", 819) + pad(")", 818), pad("any(", 7) + "pen" + pad(")", 7), pad("any(", 8) + "pen" + pad(")", 8),
		pad("pen and ", 94) + "pen", pad("pen and ", 95) + "pen", pad("pen and ", 511) + "pen", "all(" + pad("pen,", 94) + "pen)", "all(" + pad("pen,", 95) + "pen)", "any(" + pad("pen,", 1020) + "pen)",
		pad("pen and ", 95) + "xyz", pad("pen and ", 95) + "pen or", pad("pen or ", 200) + "width in {[2,1]}",
		"width in {[1," + pad("1", 4000) + "]}", "of " + pad("1", 4000) + ": pen", "of 1: " + pad(" ", 4087) + "pen", "of 1: " + pad(" ", 4088) + "pen",
	} {
		try(s)
	}
	for count := 30; count <= 35; count++ {
		var l []string
		for i := range count {
			l = append(l, "["+strconv.Itoa(2*i)+","+strconv.Itoa(2*i+1)+"]")
		}
		s := "pen or width in {" + strings.Join(l, ";") + "}"
		at, e := try(s)
		if count <= 32 && e != api.OK || count > 32 && (e != api.ErrLimit || at != 16) {
			t.Error(count, at, e)
		}
		if at, e := try(s[:len(s)-1] + ";[1,1]}"); at != 16 || e != api.ErrArg {
			t.Error(count, at, e)
		}
	}
	if f, at, e := syntax.Parse(vocab, pad("(", 2046)+"pen"+pad(")", 2046)); e != api.OK || at != 0 || !same(f, class(0)) {
		t.Error(f, at, e)
	}
}

func TestAllNames(t *testing.T) {
	v := syntax.Vocab{Classes: names(64, "class-"), Attrs: names(32, "a")}
	try := comparer(t, v)
	for i, s := range v.Classes {
		if f, _, e := syntax.Parse(v, s); e != api.OK || !same(f, class(i)) {
			t.Error(s, f, e)
		}
		try(s + " in {}")
		try(s + "0")
	}
	for i, s := range v.Attrs {
		if f, _, e := syntax.Parse(v, s+" in {}"); e != api.OK || !same(f, api.Formula{Op: api.OpValue, N: i}) {
			t.Error(s, f, e)
		}
		try(s)
		try(s + "0 in {}")
	}
	try = comparer(t, syntax.Vocab{})
	for _, s := range []string{"thing", "pen", "width in {}", "all()", "any(thing, thing) and not part thing", "and", ""} {
		try(s)
	}
}

// P8.3

func TestClaimTexts(t *testing.T) {
	for _, x := range []struct {
		text string
		refs []int
	}{
		{"pen", nil}, {"of 0: pen", []int{0}}, {"of 31: pen", []int{31}}, {"of 00: pen", []int{0}}, {"of 01,2:pen", []int{1, 2}}, {"of 0, 09, 10: pen", []int{0, 9, 10}}, {"  of  3 , 4  : pen ", []int{3, 4}},
		{"of 1,2,3,4,5,6,7,8: pen", []int{1, 2, 3, 4, 5, 6, 7, 8}}, {"of 0,1,2,3,4,5,6,31: pen", []int{0, 1, 2, 3, 4, 5, 6, 31}}, {"of1: pen", nil}, {"of 5:(pen)", []int{5}},
	} {
		c, at, e := syntax.Claim(vocab, x.text)
		if x.text == "of1: pen" {
			if e != api.ErrName || at != 0 {
				t.Error(x.text, at, e)
			}
			continue
		}
		if e != api.OK || at != 0 || !slices.Equal(c.Refs, x.refs) || !same(c.Body, class(0)) {
			t.Error(x.text, c, at, e)
		}
	}
	for _, x := range []struct {
		text string
		at   int
		want api.Errno
	}{
		{"of", 2, api.ErrForm}, {"of pen", 3, api.ErrForm}, {"of xyz", 3, api.ErrForm}, {"of 1", 4, api.ErrForm}, {"of 1:", 5, api.ErrForm}, {"of 1;", 4, api.ErrForm}, {"of 1,", 5, api.ErrForm}, {"of 1,:", 5, api.ErrForm}, {"of 1 2: pen", 5, api.ErrForm},
		{"of -1: pen", 3, api.ErrForm}, {"of 1.0: pen", 3, api.ErrForm}, {"of 1/: pen", 3, api.ErrForm}, {"of -: pen", 3, api.ErrForm}, {"of 001: pen", 3, api.ErrForm}, {"of 1-: pen", 3, api.ErrForm}, {"of *: pen", 3, api.ErrForm},
		{"of 32: pen", 3, api.ErrRange}, {"of 99: pen", 3, api.ErrRange}, {"of 1, 40, 2: pen", 6, api.ErrRange}, {"of 5, 4: pen", 6, api.ErrOrder}, {"of 5,  5: pen", 7, api.ErrOrder}, {"of 5, 05: pen", 6, api.ErrOrder}, {"of 0,0: pen", 5, api.ErrOrder},
		{"of 40, 3: pen", 3, api.ErrRange}, {"of 9, 3, 100: pen", 6, api.ErrOrder}, {"of 1,2,3,4,5,6,7,8,9: pen", 19, api.ErrLimit}, {"of 1,2,3,4,5,6,7,8,8: pen", 19, api.ErrOrder}, {"of 1,2,3,4,5,6,7,8,32: pen", 19, api.ErrRange}, {"of 1,2,3,4,5,6,7,8,100: pen", 19, api.ErrForm}, {"of 1,2,3,4,5,6,7,8,x", 19, api.ErrForm},
		{"of 1: of 2: pen", 6, api.ErrForm}, {"(of 1: pen)", 1, api.ErrForm}, {"not of 1: pen", 4, api.ErrForm}, {"pen of 1", 4, api.ErrForm}, {"of 1: xyz", 6, api.ErrName}, {"of 1: pen cap", 10, api.ErrForm}, {"of 1: width in {(1,1]}", 15, api.ErrArg},
		{"of 1: not not not not not not not not pen ", 42, api.ErrLimit}, {"and", 0, api.ErrForm}, {"", 0, api.ErrForm}, {":", 0, api.ErrForm}, {"1: pen", 0, api.ErrForm}, {"of 1: " + strings.Repeat(" ", 4088) + "pen", 4096, api.ErrLimit},
	} {
		c, at, e := syntax.Claim(vocab, x.text)
		if e != x.want || at != x.at || len(c.Refs) != 0 || !zero(c.Body) {
			t.Errorf("%q: %v %d %d", x.text, c, at, e)
		}
	}
}

func TestClaimNumbers(t *testing.T) {
	try := comparer(t, vocab)
	for i := -2; i < 130; i++ {
		for j := range 36 {
			try("of " + strconv.Itoa(i) + "," + strconv.Itoa(j) + ": pen")
		}
		try("of 0" + strconv.Itoa(i) + ": pen")
		try("of 7," + strconv.Itoa(i) + "/1: pen")
	}
	r := rand.New(rand.NewSource(83))
	for range 20000 {
		n, l := -1, []string{}
		for range 1 + r.Intn(10) {
			n += 1 + r.Intn(4)
			if r.Intn(20) == 0 {
				n -= r.Intn(6)
			}
			l = append(l, []string{strconv.Itoa(n), "0" + strconv.Itoa(n)}[r.Intn(40)/39])
		}
		try("of " + strings.Join(l, ",") + ": pen")
	}
}

// P8.4 and P8.6

// roundTrip prints a formula, compares the text with that of the reference, and reads it again.
func roundTrip(t *testing.T, v syntax.Vocab, f api.Formula) {
	s, e := syntax.Print(v, f)
	if want, wantE := refPrint(v, f); s != want || e != wantE {
		t.Fatalf("Print(%v): %q %d, not %q %d", f, s, e, want, wantE)
	}
	if e != api.OK {
		return
	}
	if g, at, e := syntax.Parse(v, s); e != api.OK || at != 0 || !same(f, g) {
		t.Fatalf("Parse(%q): %v %d %d, not %v", s, g, at, e, f)
	}
}

func TestPrint(t *testing.T) {
	one, two, three := api.Ratio{Num: 1, Den: 1}, api.Ratio{Num: 2, Den: 1}, api.Ratio{Num: -3, Den: 2}
	pen, cap, lid := class(0), class(1), class(2)
	for _, x := range []struct {
		f    api.Formula
		want string
	}{
		{api.Formula{}, "thing"}, {pen, "pen"}, {lid, "lid"},
		{with(api.OpAnd), "all()"}, {with(api.OpOr), "any()"}, {with(api.OpAnd, pen), "all(pen)"}, {with(api.OpOr, pen), "any(pen)"},
		{with(api.OpAnd, pen, cap), "pen and cap"}, {with(api.OpOr, pen, cap, lid), "pen or cap or lid"},
		{with(api.OpAnd, with(api.OpAnd, pen, cap)), "all(pen and cap)"}, {with(api.OpOr, with(api.OpAnd, pen, cap)), "any(pen and cap)"}, {with(api.OpOr, with(api.OpOr)), "any(any())"},
		{with(api.OpAnd, with(api.OpAnd, pen, cap), lid), "(pen and cap) and lid"}, {with(api.OpAnd, lid, with(api.OpOr, pen, cap)), "lid and (pen or cap)"}, {with(api.OpOr, with(api.OpAnd, pen), with(api.OpOr)), "all(pen) or any()"},
		{with(api.OpNot, pen), "not pen"}, {with(api.OpPart, pen), "part pen"}, {with(api.OpNot, with(api.OpPart, with(api.OpNot, pen))), "not part not pen"},
		{with(api.OpNot, with(api.OpOr, pen, cap)), "not (pen or cap)"}, {with(api.OpPart, with(api.OpAnd, pen, cap)), "part (pen and cap)"}, {with(api.OpNot, with(api.OpAnd, pen)), "not all(pen)"}, {with(api.OpPart, with(api.OpOr)), "part any()"},
		{with(api.OpOr, with(api.OpNot, pen), with(api.OpPart, cap)), "not pen or part cap"},
		{width(), "width in {}"}, {width(api.Interval{LoInf: true, HiInf: true}), "width in {(*,*)}"}, {width(api.Interval{Lo: one, Hi: two}), "width in {[1,2]}"}, {width(api.Interval{Lo: one, Hi: two, LoOpen: true}), "width in {(1,2]}"}, {width(api.Interval{Lo: one, Hi: two, HiOpen: true}), "width in {[1,2)}"},
		{width(api.Interval{Lo: three, HiInf: true}), "width in {[-3/2,*)}"}, {width(api.Interval{LoInf: true, Hi: three}), "width in {(*,-3/2]}"}, {width(api.Interval{LoInf: true, Hi: three, HiOpen: true}, api.Interval{Lo: one, HiInf: true, LoOpen: true}), "width in {(*,-3/2); (1,*)}"},
		{with(api.OpNot, api.Formula{Op: api.OpValue, N: 1}), "not hue in {}"}, {with(api.OpAnd, width(), pen), "width in {} and pen"},
	} {
		if s, e := syntax.Print(vocab, x.f); s != x.want || e != api.OK {
			t.Errorf("%q: %q %d", x.want, s, e)
		}
		roundTrip(t, vocab, x.f)
	}
}

func TestPrintErrors(t *testing.T) {
	small := syntax.Vocab{Classes: []string{"pen"}, Attrs: []string{"hue"}}
	wrong := []api.Interval{{Lo: api.Ratio{Num: 2, Den: 1}, Hi: api.Ratio{Num: 1, Den: 1}}}
	wide := with(api.OpAnd, slices.Repeat([]api.Formula{class(0)}, 96)...)
	for i, x := range []struct {
		v    syntax.Vocab
		f    api.Formula
		want api.Errno
	}{
		{small, class(0), api.OK}, {small, class(1), api.ErrName}, {small, class(63), api.ErrName}, {small, class(64), api.ErrArg}, {small, class(-1), api.ErrArg},
		{small, api.Formula{Op: api.OpValue}, api.OK}, {small, api.Formula{Op: api.OpValue, N: 1}, api.ErrName}, {small, api.Formula{Op: api.OpValue, N: 31}, api.ErrName}, {small, api.Formula{Op: api.OpValue, N: 32}, api.ErrArg},
		{small, api.Formula{Op: api.OpValue, N: 1, In: wrong}, api.ErrArg}, {small, with(api.OpAnd, class(5), api.Formula{Op: 7}), api.ErrArg}, {small, with(api.OpNot, with(api.OpOr, class(0), with(api.OpPart, class(1)))), api.ErrName},
		{small, with(api.OpNot), api.ErrArg}, {small, with(api.OpNot, class(0), class(0)), api.ErrArg}, {small, chain(api.OpNot, 8, class(1)), api.ErrLimit}, {small, chain(api.OpNot, 7, class(1)), api.ErrName}, {small, chain(api.OpNot, 7, class(0)), api.OK},
		{small, wide, api.ErrLimit}, {syntax.Vocab{}, api.Formula{}, api.OK}, {syntax.Vocab{}, class(0), api.ErrName}, {syntax.Vocab{Attrs: []string{"hue"}}, class(0), api.ErrName}, {syntax.Vocab{Classes: []string{"hue"}}, width(), api.ErrName},
		{small, api.Formula{N: 1}, api.ErrArg}, {small, api.Formula{Op: api.OpClass, Kids: []api.Formula{class(0)}}, api.ErrArg}, {small, api.Formula{Op: api.OpClass, In: make([]api.Interval, 1)}, api.ErrArg},
	} {
		s, e := syntax.Print(x.v, x.f)
		if e != x.want || (s == "") != (e != api.OK) {
			t.Error(i, s, e)
		}
		for _, refs := range [][]int{nil, {0, 31}} {
			s, e := syntax.PrintClaim(x.v, api.Claim{Refs: refs, Body: x.f})
			if e != x.want || (s == "") != (e != api.OK) {
				t.Error(i, s, e)
			}
		}
	}
}

// sized returns a formula whose text has some number of bytes.
func sized(size int) api.Formula {
	extra := make([]api.Formula, 4)
	f := with(api.OpAnd)
	length := func() int { return len(spaced(wording(vocab, with(api.OpAnd, append(extra, f.Kids...)...), nil))) }
	for i := range extra {
		extra[i] = width(api.Interval{Lo: api.Ratio{Num: 1, Den: 1}, Hi: api.Ratio{Num: 1, Den: 1}})
	}
	for n := 1000000; length() <= size-32; n += 2 {
		last := len(f.Kids) - 1
		if last < 0 || len(f.Kids[last].In) == 32 {
			f.Kids = append(f.Kids, api.Formula{Op: api.OpValue, N: 1})
			last++
		}
		point := api.Ratio{Num: n, Den: 1}
		f.Kids[last].In = append(f.Kids[last].In, api.Interval{Lo: point, Hi: point})
	}
	for i := 0; length() < size; i = (i + 1) % len(extra) {
		extra[i].In[0].Hi.Num *= 10
	}
	return with(api.OpAnd, append(extra, f.Kids...)...)
}

func TestPrintLimits(t *testing.T) {
	for _, size := range []int{3000, 4089, 4090, 4091, 4095, 4096, 4097, 4098, 4200} {
		f := sized(size)
		roundTrip(t, vocab, f)
		s, e := syntax.Print(vocab, f)
		if size <= 4096 && (e != api.OK || len(s) != size) || size > 4096 && (e != api.ErrLimit || s != "") {
			t.Error(size, len(s), e)
		}
		for refs, most := range map[int]int{0: 4096, 1: 4090, 2: 4087} {
			c := api.Claim{Refs: []int{3, 4}[:refs], Body: f}
			s, e := syntax.PrintClaim(vocab, c)
			if want, wantE := refPrintClaim(vocab, c); s != want || e != wantE || (e == api.OK) != (size <= most) {
				t.Error(size, refs, e)
			}
		}
	}
	var most []api.Interval
	for i := range 32 {
		most = append(most, api.Interval{Lo: api.Ratio{Num: 1<<30 - 99 + 2*i, Den: 32768}, Hi: api.Ratio{Num: 1<<30 - 99 + 2*i, Den: 32768}})
	}
	if s, e := syntax.Print(vocab, with(api.OpAnd, slices.Repeat([]api.Formula{width(most...)}, 95)...)); e != api.ErrLimit || s != "" {
		t.Error(len(s), e)
	}
	long := syntax.Vocab{Classes: []string{strings.Repeat("a", 16)}}
	roundTrip(t, long, with(api.OpOr, slices.Repeat([]api.Formula{class(0)}, 95)...))
}

func TestSmallFormulas(t *testing.T) {
	set := api.Interval{Lo: api.Ratio{Num: -1, Den: 2}, HiInf: true, LoOpen: true}
	level := []api.Formula{{}, class(1), width(set), {Op: api.OpValue, N: 1}}
	for range 2 {
		next := slices.Clone(level)
		for _, f := range level {
			next = append(next, with(api.OpNot, f), with(api.OpPart, f), with(api.OpAnd, f), with(api.OpOr, f))
			for _, g := range level {
				next = append(next, with(api.OpAnd, f, g), with(api.OpOr, f, g))
			}
		}
		level = append(next, with(api.OpAnd), with(api.OpOr))
		for _, f := range level {
			roundTrip(t, vocab, f)
		}
	}
}

func TestRandomFormulas(t *testing.T) {
	r := rand.New(rand.NewSource(84))
	large := syntax.Vocab{Classes: names(64, "c"), Attrs: names(32, "a")}
	for range 20000 {
		for _, v := range []syntax.Vocab{vocab, large} {
			f := randomFormula(v, r, 1+r.Intn(8))
			roundTrip(t, v, f)
			roundTrip(t, syntax.Vocab{Classes: v.Classes[:r.Intn(len(v.Classes))], Attrs: v.Attrs[:r.Intn(len(v.Attrs)+1)]}, f)
		}
		s := scattered(wording(vocab, randomFormula(vocab, r, 1+r.Intn(5)), r), r)
		f, _, e := syntax.Parse(vocab, s)
		if e != api.OK {
			t.Fatal(s, e)
		}
		roundTrip(t, vocab, f)
	}
}

func TestInvalidFormulas(t *testing.T) {
	r := rand.New(rand.NewSource(841))
	for range 20000 {
		f := randomFormula(vocab, r, 1+r.Intn(4))
		g := &f
		for len(g.Kids) > 0 && r.Intn(3) > 0 {
			g = &g.Kids[r.Intn(len(g.Kids))]
		}
		switch r.Intn(4) {
		case 0:
			g.Op = r.Intn(10) - 1
		case 1:
			g.N = []int{-1, 1, 3, 31, 32, 63, 64}[r.Intn(7)]
		case 2:
			g.In = append(g.In, api.Interval{Lo: api.Ratio{Num: r.Intn(9), Den: r.Intn(3)}, Hi: api.Ratio{Num: r.Intn(9), Den: 1}})
		case 3:
			g.Kids = append(g.Kids, class(r.Intn(5)))
		}
		roundTrip(t, vocab, f)
	}
}

// P8.5 and P8.6

// claimTrip prints a claim, compares the text with that of the reference, and reads it again.
func claimTrip(t *testing.T, v syntax.Vocab, c api.Claim) {
	s, e := syntax.PrintClaim(v, c)
	if want, wantE := refPrintClaim(v, c); s != want || e != wantE {
		t.Fatalf("PrintClaim(%v): %q %d, not %q %d", c, s, e, want, wantE)
	}
	if e != api.OK {
		return
	}
	if d, at, e := syntax.Claim(v, s); e != api.OK || at != 0 || !slices.Equal(c.Refs, d.Refs) || !same(c.Body, d.Body) {
		t.Fatalf("Claim(%q): %v %d %d, not %v", s, d, at, e, c)
	}
}

func TestPrintClaim(t *testing.T) {
	for _, x := range []struct {
		refs []int
		want string
	}{{nil, "pen or cap"}, {[]int{}, "pen or cap"}, {[]int{0}, "of 0: pen or cap"}, {[]int{0, 9, 31}, "of 0, 9, 31: pen or cap"}, {[]int{1, 2, 3, 4, 5, 6, 7, 8}, "of 1, 2, 3, 4, 5, 6, 7, 8: pen or cap"}} {
		if s, e := syntax.PrintClaim(vocab, api.Claim{Refs: x.refs, Body: with(api.OpOr, class(0), class(1))}); s != x.want || e != api.OK {
			t.Error(x.refs, s, e)
		}
	}
	long := sized(4097)
	for _, refs := range [][]int{{-1}, {32}, {64}, {0, 0}, {1, 0}, {0, 2, 2}, {3, 2, 4}, {0, 1, 32}, {-1, 0}, {0, 1, 2, 3, 4, 5, 6, 7, 8}, {31, 32}, {0, 1, 2, 3, 4, 5, 6, 7, 7}, make([]int, 1000)} {
		for _, body := range []api.Formula{class(0), class(5), class(64), {Op: -1}, chain(api.OpNot, 8, class(0)), long} {
			if s, e := syntax.PrintClaim(vocab, api.Claim{Refs: refs, Body: body}); e != api.ErrArg || s != "" {
				t.Error(refs, body, s, e)
			}
		}
	}
	for i := -2; i < 35; i++ {
		claimTrip(t, vocab, api.Claim{Refs: []int{i}, Body: class(0)})
		for j := -2; j < 35; j++ {
			claimTrip(t, vocab, api.Claim{Refs: []int{i, j}, Body: class(0)})
			claimTrip(t, vocab, api.Claim{Refs: []int{0, i, j}, Body: class(9)})
		}
	}
}

func TestRandomClaims(t *testing.T) {
	r := rand.New(rand.NewSource(85))
	for range 20000 {
		c := api.Claim{Body: randomFormula(vocab, r, 1+r.Intn(4))}
		for n := r.Intn(6); n < 33 && r.Intn(11) > 0; n += r.Intn(10) {
			c.Refs = append(c.Refs, n)
		}
		claimTrip(t, vocab, c)
	}
}

// P8.7

// bounds returns the offsets at which tokens of a text begin or end, and both ends of the text.
func bounds(s string) []int {
	l := []int{0, len(s)}
	for _, t := range refTokens(s) {
		l = append(l, t.at, t.at+len(t.text))
	}
	slices.Sort(l)
	return slices.Compact(l)
}

// samples returns texts, most of which have errors.
func samples(r *rand.Rand, count int) []string {
	l := []string{"", "pen", "xyz", "of 1, 2: pen", "of 1, 1: pen", "of 1, 40: pen", "of 1, x", "width in {[2,1]}", "width in {[1,2/0]} and", "not not not not not not not not pen", "of 1: not not not not not not not not pen"}
	pieces := []string{"", "pen", "xyz", "and", "or", "(", ")", ",", "not", "{", "}", ";", "1", "0/0", "of", ":", "#", "[2,1]"}
	for range count {
		w := wording(vocab, randomFormula(vocab, r, 1+r.Intn(5)), r)
		if r.Intn(3) == 0 {
			w = append([]string{"of", strconv.Itoa(r.Intn(36)), ":"}, w...)
		}
		i := r.Intn(len(w))
		switch r.Intn(4) {
		case 0:
			w[i] = pieces[r.Intn(len(pieces))]
		case 1:
			w = slices.Insert(w, i, pieces[r.Intn(len(pieces))])
		case 2:
			w = w[:i]
		}
		l = append(l, scattered(w, r))
	}
	return l
}

func TestSpaces(t *testing.T) {
	for _, s := range samples(rand.New(rand.NewSource(87)), 3000) {
		f, at, e := syntax.Parse(vocab, s)
		c, claimAt, claimE := syntax.Claim(vocab, s)
		for i, b := range bounds(s) {
			spaces := 1 + i%3
			more := s[:b] + strings.Repeat(" ", spaces) + s[b:]
			moved := func(at int, e api.Errno) int {
				if e != api.OK && b <= at {
					return at + spaces
				}
				return at
			}
			if g, gAt, gE := syntax.Parse(vocab, more); gE != e || gAt != moved(at, e) || !same(f, g) {
				t.Fatalf("%q %d %d, %q %d %d", s, at, e, more, gAt, gE)
			}
			if d, dAt, dE := syntax.Claim(vocab, more); dE != claimE || dAt != moved(claimAt, claimE) || !slices.Equal(c.Refs, d.Refs) || !same(c.Body, d.Body) {
				t.Fatalf("%q %d %d, %q %d %d", s, claimAt, claimE, more, dAt, dE)
			}
		}
	}
}

// P8.8

func TestOffsets(t *testing.T) {
	r := rand.New(rand.NewSource(88))
	ends := []string{"", "pen", "#", "((((", "))", "and cap", "of 1:", " 0/0 ", "{[2,1]}", "xyz", "-", "\x00", strings.Repeat(" pen", 900)}
	found := map[api.Errno]int{}
	for _, s := range samples(r, 5000) {
		_, at, e := syntax.Parse(vocab, s)
		if e != api.ErrForm && e != api.ErrName || at == len(s) {
			continue
		}
		found[e]++
		token := tokenPattern.FindString(s[at:])
		for _, end := range ends {
			more := s[:at] + token + " " + end
			if _, moreAt, moreE := syntax.Parse(vocab, more); len(more) <= 4096 && (moreAt != at || moreE != e) {
				t.Fatalf("%q %d %d, %q %d %d", s, at, e, more, moreAt, moreE)
			}
		}
	}
	if found[api.ErrForm] < 100 || found[api.ErrName] < 100 {
		t.Error(found)
	}
}

// P8.9

// exchanged returns a formula with two classes exchanged.
func exchanged(f api.Formula, a, b int) api.Formula {
	g := api.Formula{Op: f.Op, N: f.N, In: f.In}
	if f.Op == api.OpClass && f.N == a {
		g.N = b
	}
	if f.Op == api.OpClass && f.N == b {
		g.N = a
	}
	for _, k := range f.Kids {
		g.Kids = append(g.Kids, exchanged(k, a, b))
	}
	return g
}

func TestExchanged(t *testing.T) {
	for _, s := range samples(rand.New(rand.NewSource(89)), 3000) {
		f, at, e := syntax.Parse(vocab, s)
		for _, x := range [][2]int{{0, 1}, {0, 2}, {1, 2}} {
			v := syntax.Vocab{Classes: slices.Clone(vocab.Classes), Attrs: vocab.Attrs}
			v.Classes[x[0]], v.Classes[x[1]] = v.Classes[x[1]], v.Classes[x[0]]
			if g, gAt, gE := syntax.Parse(v, s); gE != e || gAt != at || !same(g, exchanged(f, x[0], x[1])) {
				t.Fatalf("%q %v %v", s, f, g)
			}
		}
	}
}

// R1 and R3

// spoil changes all memory of a formula.
func spoil(f api.Formula) {
	for i := range f.In {
		f.In[i] = api.Interval{Lo: api.Ratio{Num: 77}}
	}
	for i := range f.Kids {
		spoil(f.Kids[i])
		f.Kids[i].Op = 99
	}
}

func TestMemory(t *testing.T) {
	r := rand.New(rand.NewSource(3))
	classes, attrs := append(slices.Clone(vocab.Classes), "of"), append(slices.Clone(vocab.Attrs), "of")
	v := syntax.Vocab{Classes: classes[:3], Attrs: attrs[:2]}
	refs := []int{1, 2, 99}
	for range 2000 {
		f := randomFormula(v, r, 5)
		before := exchanged(f, 0, 0)
		first, e := syntax.PrintClaim(v, api.Claim{Refs: refs[:2], Body: f})
		if e != api.OK || !same(f, before) || !slices.Equal(refs, []int{1, 2, 99}) {
			t.Fatal(f, before, refs, e)
		}
		c, _, _ := syntax.Claim(v, first)
		g, _, _ := syntax.Parse(v, first[len("of 1, 2: "):])
		spoil(c.Body)
		c.Refs[0] = 77
		d, _, e := syntax.Claim(v, first)
		if e != api.OK || !same(f, g) || !same(f, d.Body) || !slices.Equal(d.Refs, []int{1, 2}) {
			t.Fatal(f, g, d, e)
		}
	}
	for _, s := range []string{"pen", "xyz", "pen and", "of 1, 1: pen"} {
		syntax.Parse(v, s)
		syntax.Claim(v, s)
	}
	if syntax.Valid(v) != api.OK || !reflect.DeepEqual(v, vocab) || classes[3] != "of" || attrs[2] != "of" {
		t.Error(v, classes, attrs)
	}
	order := syntax.Vocab{Classes: []string{"z", "b", "a"}, Attrs: []string{"y", "c"}}
	if syntax.Valid(order) != api.OK || !slices.Equal(order.Classes, []string{"z", "b", "a"}) || !slices.Equal(order.Attrs, []string{"y", "c"}) {
		t.Error(order)
	}
}

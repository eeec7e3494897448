package syntax_test

import (
	"math/rand"
	"regexp"
	"slices"
	"strconv"
	"strings"

	"priorart/api"
	"priorart/formula"
	"priorart/ratio"
	"priorart/span"
	"priorart/syntax"
)

// The reference follows the words of the chapter. It finds tokens with a regular expression, keeps for each beginning of
// a text all that the grammar, which is a table, can go on with, finds what a whole text stands for by splitting it at
// its words and marks, and prints by a rule for each two tokens. It shares no code with the package.

const keywords = " all and any in not of or part thing "

var (
	namePattern   = regexp.MustCompile(`^[a-z][a-z0-9-]{0,15}$`)
	tokenPattern  = regexp.MustCompile(`[a-z][a-z0-9-]*|[0-9-][0-9/.-]*|[^ ]`)
	wordPattern   = regexp.MustCompile(`^[a-z]`)
	numberPattern = regexp.MustCompile(`^[0-9-]`)
	refPattern    = regexp.MustCompile(`^[0-9]{1,2}$`)
)

// grammar has the alternatives of each symbol; what can follow the first item of a formula is a symbol of its own. A
// symbol without alternatives is a token, or stands for several ones; the empty one is the end.
var grammar = map[string][][]string{
	"Text":      {{"Formula", ""}},
	"Claim":     {{"Formula", ""}, {"of", "<ref>", "Refs", ":", "Formula", ""}},
	"Refs":      {{}, {",", "<ref>", "Refs"}},
	"Formula":   {{"Item", "Rest"}},
	"Rest":      {{}, {"and", "Item", "Ands"}, {"or", "Item", "Ors"}},
	"Ands":      {{}, {"and", "Item", "Ands"}},
	"Ors":       {{}, {"or", "Item", "Ors"}},
	"Item":      {{"thing"}, {"<class>"}, {"<attr>", "in", "Set"}, {"part", "Item"}, {"not", "Item"}, {"all", "List"}, {"any", "List"}, {"(", "Formula", ")"}},
	"List":      {{"(", ")"}, {"(", "Formula", "Formulas", ")"}},
	"Formulas":  {{}, {",", "Formula", "Formulas"}},
	"Set":       {{"{", "}"}, {"{", "Interval", "Intervals", "}"}},
	"Intervals": {{}, {";", "Interval", "Intervals"}},
	"Interval":  {{"Low", ",", "High"}},
	"Low":       {{"[", "<number>"}, {"(", "<number>"}, {"(", "*"}},
	"High":      {{"<number>", "]"}, {"<number>", ")"}, {"*", ")"}},
}

// tok is a token and its offset.
type tok struct {
	text string
	at   int
}

// refTokens returns the tokens of a text, and its end.
func refTokens(s string) []tok {
	var l []tok
	for _, m := range tokenPattern.FindAllStringIndex(s, -1) {
		l = append(l, tok{s[m[0]:m[1]], m[0]})
	}
	return append(l, tok{"", len(s)})
}

func isKeyword(s string) bool { return strings.Contains(keywords, " "+s+" ") }

func refValid(v syntax.Vocab) api.Errno {
	if len(v.Classes) > 64 || len(v.Attrs) > 32 {
		return api.ErrLimit
	}
	count := map[string]int{}
	for _, s := range append(slices.Clone(v.Classes), v.Attrs...) {
		if !namePattern.MatchString(s) || isKeyword(s) {
			return api.ErrName
		}
		count[s]++
	}
	for _, n := range count {
		if n > 1 {
			return api.ErrTwice
		}
	}
	return api.OK
}

// pile is the symbols that have to follow, the next one on top.
type pile struct {
	top  string
	rest *pile
}

// heads returns all piles that can stand where a pile stands, and whose top is a symbol without alternatives.
func heads(p *pile) []*pile {
	if p == nil || grammar[p.top] == nil {
		return []*pile{p}
	}
	var l []*pile
	for _, a := range grammar[p.top] {
		q := p.rest
		for _, symbol := range slices.Backward(a) {
			q = &pile{symbol, q}
		}
		l = append(l, heads(q)...)
	}
	return l
}

// stands reports whether a token can stand for a symbol without alternatives.
func stands(v syntax.Vocab, text, symbol string) bool {
	switch symbol {
	case "<class>":
		return slices.Contains(v.Classes, text)
	case "<attr>":
		return slices.Contains(v.Attrs, text)
	case "<number>", "<ref>":
		return numberPattern.MatchString(text)
	}
	return text == symbol
}

// refRead examines a text up to its end, from a symbol on. It returns its tokens if there is no error.
func refRead(v syntax.Vocab, s, start string) ([]tok, int, api.Errno) {
	if e := refValid(v); e != api.OK {
		return nil, 0, e
	}
	if len(s) > 4096 {
		return nil, 4096, api.ErrLimit
	}
	l := refTokens(s)
	ways := heads(&pile{top: start})
	var refs []int
	for i, t := range l {
		var next []*pile
		symbol := ""
		for _, p := range ways {
			if stands(v, t.text, p.top) {
				symbol = p.top
				next = append(next, heads(p.rest)...)
			}
		}
		if next == nil {
			item := slices.ContainsFunc(ways, func(p *pile) bool { return p.top == "<class>" })
			if item && wordPattern.MatchString(t.text) && !isKeyword(t.text) {
				return nil, t.at, api.ErrName
			}
			return nil, t.at, api.ErrForm
		}
		if at, e := refCheck(l[:i+1], symbol, refs); e != api.OK {
			return nil, at, e
		}
		if symbol == "<ref>" {
			n, _ := strconv.Atoi(t.text)
			refs = append(refs, n)
		}
		ways = next
	}
	return l[:len(l)-1], 0, api.OK
}

// refCheck examines the last one of some tokens, which stands for a symbol.
func refCheck(l []tok, symbol string, refs []int) (int, api.Errno) {
	t := l[len(l)-1]
	switch symbol {
	case "<number>":
		_, e := ratio.Parse(t.text)
		return t.at, e
	case "<ref>":
		return t.at, refError(t.text, refs)
	case "}":
		i := len(l) - 1
		for l[i].text != "{" {
			i--
		}
		return l[i].at, span.Valid(refIntervals(words(l[i+1 : len(l)-1])))
	}
	return 0, api.OK
}

// refError returns the error of a number behind others.
func refError(text string, refs []int) api.Errno {
	n, _ := strconv.Atoi(text)
	switch {
	case !refPattern.MatchString(text):
		return api.ErrForm
	case n > 31:
		return api.ErrRange
	case len(refs) > 0 && slices.Max(refs) >= n:
		return api.ErrOrder
	case len(refs) >= 8:
		return api.ErrLimit
	}
	return api.OK
}

func words(l []tok) []string {
	var w []string
	for _, t := range l {
		w = append(w, t.text)
	}
	return w
}

// split splits tokens at those that are a mark and not within parentheses or braces.
func split(l []string, mark string) [][]string {
	parts := [][]string{nil}
	depth, set := 0, false
	for _, t := range l {
		if t == "{" || t == "}" {
			set = t == "{"
		}
		if t == "(" && !set {
			depth++
		}
		if t == ")" && !set {
			depth--
		}
		if t == mark && depth == 0 && !set {
			parts = append(parts, nil)
			continue
		}
		parts[len(parts)-1] = append(parts[len(parts)-1], t)
	}
	return parts
}

// refIntervals returns the intervals of a set, without its braces. Each of them has five tokens.
func refIntervals(l []string) []api.Interval {
	var set []api.Interval
	for ; len(l) > 0; l = l[min(6, len(l)):] {
		x := api.Interval{LoInf: l[1] == "*", HiInf: l[3] == "*"}
		x.LoOpen, x.HiOpen = l[0] == "(" && !x.LoInf, l[4] == ")" && !x.HiInf
		x.Lo, _ = ratio.Parse(l[1])
		x.Hi, _ = ratio.Parse(l[3])
		set = append(set, x)
	}
	return set
}

// refFormula returns the formula for which the tokens of a correct text stand.
func refFormula(v syntax.Vocab, l []string) api.Formula {
	if p := split(l, "and"); len(p) > 1 {
		return api.Formula{Op: api.OpAnd, Kids: refFormulas(v, p)}
	}
	if p := split(l, "or"); len(p) > 1 {
		return api.Formula{Op: api.OpOr, Kids: refFormulas(v, p)}
	}
	switch l[0] {
	case "thing":
		return api.Formula{Op: api.OpTrue}
	case "part":
		return api.Formula{Op: api.OpPart, Kids: refFormulas(v, [][]string{l[1:]})}
	case "not":
		return api.Formula{Op: api.OpNot, Kids: refFormulas(v, [][]string{l[1:]})}
	case "(":
		return refFormula(v, l[1:len(l)-1])
	case "all", "any":
		f := api.Formula{Op: map[string]int{"all": api.OpAnd, "any": api.OpOr}[l[0]]}
		if len(l) > 3 {
			f.Kids = refFormulas(v, split(l[2:len(l)-1], ","))
		}
		return f
	}
	if i := slices.Index(v.Classes, l[0]); i >= 0 {
		return api.Formula{Op: api.OpClass, N: i}
	}
	return api.Formula{Op: api.OpValue, N: slices.Index(v.Attrs, l[0]), In: refIntervals(l[3 : len(l)-1])}
}

func refFormulas(v syntax.Vocab, parts [][]string) []api.Formula {
	var kids []api.Formula
	for _, p := range parts {
		kids = append(kids, refFormula(v, p))
	}
	return kids
}

func refParse(v syntax.Vocab, s string) (api.Formula, int, api.Errno) {
	l, at, e := refRead(v, s, "Text")
	if e != api.OK {
		return api.Formula{}, at, e
	}
	f := refFormula(v, words(l))
	if e := formula.Valid(f); e != api.OK {
		return api.Formula{}, len(s), e
	}
	return f, 0, api.OK
}

func refClaim(v syntax.Vocab, s string) (api.Claim, int, api.Errno) {
	l, at, e := refRead(v, s, "Claim")
	if e != api.OK {
		return api.Claim{}, at, e
	}
	w := words(l)
	c := api.Claim{}
	if w[0] == "of" {
		i := slices.Index(w, ":")
		for _, t := range w[1:i] {
			if n, e := strconv.Atoi(t); e == nil {
				c.Refs = append(c.Refs, n)
			}
		}
		w = w[i+1:]
	}
	c.Body = refFormula(v, w)
	if e := formula.Valid(c.Body); e != api.OK {
		return api.Claim{}, len(s), e
	}
	return c, 0, api.OK
}

// nameless reports whether a formula has a class or an attribute without a name.
func nameless(v syntax.Vocab, f api.Formula) bool {
	if f.Op == api.OpClass && f.N >= len(v.Classes) || f.Op == api.OpValue && f.N >= len(v.Attrs) {
		return true
	}
	return slices.ContainsFunc(f.Kids, func(k api.Formula) bool { return nameless(v, k) })
}

func refPrint(v syntax.Vocab, f api.Formula) (string, api.Errno) {
	if e := refValid(v); e != api.OK {
		return "", e
	}
	if e := formula.Valid(f); e != api.OK {
		return "", e
	}
	if nameless(v, f) {
		return "", api.ErrName
	}
	s := spaced(wording(v, f, nil))
	if len(s) > 4096 {
		return "", api.ErrLimit
	}
	return s, api.OK
}

func refPrintClaim(v syntax.Vocab, c api.Claim) (string, api.Errno) {
	if e := refValid(v); e != api.OK {
		return "", e
	}
	wrong := len(c.Refs) > 8
	for i, n := range c.Refs {
		wrong = wrong || n < 0 || n > 31 || i > 0 && n <= c.Refs[i-1]
	}
	if wrong {
		return "", api.ErrArg
	}
	s, e := refPrint(v, c.Body)
	if e != api.OK {
		return "", e
	}
	var l []string
	for _, n := range c.Refs {
		l = append(l, strconv.Itoa(n))
	}
	if len(l) > 0 {
		s = "of " + strings.Join(l, ", ") + ": " + s
	}
	if len(s) > 4096 {
		return "", api.ErrLimit
	}
	return s, api.OK
}

// spaced puts spaces between tokens where Print does.
func spaced(l []string) string {
	var s strings.Builder
	for i, t := range l {
		before := slices.Contains([]string{"and", "or", "in"}, t)
		after := i > 0 && slices.Contains([]string{"and", "or", "in", "part", "not", ";"}, l[i-1])
		if before || after {
			s.WriteString(" ")
		}
		s.WriteString(t)
	}
	return s.String()
}

// wording returns the tokens of a text that stands for a valid formula: those of Print without r, and otherwise random
// ones.
func wording(v syntax.Vocab, f api.Formula, r *rand.Rand) []string {
	switch f.Op {
	case api.OpClass:
		return []string{v.Classes[f.N]}
	case api.OpValue:
		return slices.Concat([]string{v.Attrs[f.N], "in", "{"}, setWording(f.In, r), []string{"}"})
	case api.OpPart:
		return append([]string{"part"}, itemWording(v, f.Kids[0], r)...)
	case api.OpNot:
		return append([]string{"not"}, itemWording(v, f.Kids[0], r)...)
	case api.OpAnd:
		return kidsWording(v, f.Kids, "and", "all", r)
	case api.OpOr:
		return kidsWording(v, f.Kids, "or", "any", r)
	}
	return []string{"thing"}
}

// itemWording is wording where the grammar has an item.
func itemWording(v syntax.Vocab, f api.Formula, r *rand.Rand) []string {
	l := wording(v, f, r)
	joined := len(split(l, "and")) > 1 || len(split(l, "or")) > 1
	for joined || r != nil && r.Intn(6) == 0 {
		l, joined = slices.Concat([]string{"("}, l, []string{")"}), false
	}
	return l
}

func kidsWording(v syntax.Vocab, kids []api.Formula, word, name string, r *rand.Rand) []string {
	var l []string
	if len(kids) > 1 && (r == nil || r.Intn(3) > 0) {
		for i, k := range kids {
			if i > 0 {
				l = append(l, word)
			}
			l = append(l, itemWording(v, k, r)...)
		}
		return l
	}
	for i, k := range kids {
		if i > 0 {
			l = append(l, ",")
		}
		if r == nil {
			l = append(l, wording(v, k, r)...)
		} else {
			l = append(l, [][]string{wording(v, k, r), itemWording(v, k, r)}[r.Intn(2)]...)
		}
	}
	return slices.Concat([]string{name, "("}, l, []string{")"})
}

func setWording(set []api.Interval, r *rand.Rand) []string {
	var l []string
	for i, x := range set {
		if i > 0 {
			l = append(l, ";")
		}
		low, high := []string{"(", "*"}, []string{"*", ")"}
		if !x.LoInf {
			low = []string{map[bool]string{true: "(", false: "["}[x.LoOpen], spelled(x.Lo, r)}
		}
		if !x.HiInf {
			high = []string{spelled(x.Hi, r), map[bool]string{true: ")", false: "]"}[x.HiOpen]}
		}
		l = slices.Concat(l, low, []string{","}, high)
	}
	return l
}

// spelled returns a text of a number: that of Print without r, and otherwise a random one.
func spelled(n api.Ratio, r *rand.Rand) string {
	num, den := strconv.Itoa(n.Num), strconv.Itoa(n.Den)
	switch {
	case r != nil && r.Intn(3) == 0:
		k := 1 + r.Intn(9)
		return strconv.Itoa(n.Num*k) + "/" + strconv.Itoa(n.Den*k)
	case r != nil && r.Intn(3) == 0 && 1000%n.Den == 0:
		thousandths := strconv.Itoa(1000000 + 1000/n.Den*max(n.Num, -n.Num)%1000)
		sign := ""
		if n.Num < 0 {
			sign = "-"
		}
		return sign + "0" + strconv.Itoa(max(n.Num, -n.Num)/n.Den) + "." + thousandths[4:]
	case n.Den == 1:
		return num
	}
	return num + "/" + den
}

// scattered returns a text of tokens with random spaces.
func scattered(l []string, r *rand.Rand) string {
	s := strings.Repeat(" ", r.Intn(2))
	for i, t := range l {
		if i > 0 && wordPattern.MatchString(t) && wordPattern.MatchString(l[i-1]) {
			s += " "
		}
		s += strings.Repeat(" ", max(0, r.Intn(5)-2)) + t
	}
	return s + strings.Repeat(" ", r.Intn(2))
}

// randomSet returns a set with small numbers.
func randomSet(r *rand.Rand) []api.Interval {
	var l []api.Interval
	at := -4 * r.Intn(8)
	for range r.Intn(4) {
		x := api.Interval{LoOpen: r.Intn(2) == 0, HiOpen: r.Intn(2) == 0}
		den := 1 + r.Intn(5)
		at += 1 + r.Intn(3)
		x.Lo, _ = ratio.New(at*60+60/den, 60)
		at += 1 + r.Intn(3)
		x.Hi, _ = ratio.New(at*60+60/den, 60)
		l = append(l, x)
		at++
	}
	if len(l) > 0 && r.Intn(4) == 0 {
		l[0].Lo, l[0].LoOpen, l[0].LoInf = api.Ratio{}, false, true
	}
	if len(l) > 0 && r.Intn(4) == 0 {
		x := &l[len(l)-1]
		x.Hi, x.HiOpen, x.HiInf = api.Ratio{}, false, true
	}
	return l
}

// randomFormula returns a valid formula whose classes and attributes have names.
func randomFormula(v syntax.Vocab, r *rand.Rand, levels int) api.Formula {
	ops := []int{api.OpTrue, api.OpClass, api.OpClass, api.OpValue}
	if levels > 1 {
		ops = append(ops, api.OpPart, api.OpNot, api.OpAnd, api.OpAnd, api.OpAnd, api.OpOr, api.OpOr, api.OpOr)
	}
	f := api.Formula{Op: ops[r.Intn(len(ops))]}
	kids := 0
	switch f.Op {
	case api.OpClass:
		f.N = r.Intn(len(v.Classes))
	case api.OpValue:
		f.N, f.In = r.Intn(len(v.Attrs)), randomSet(r)
	case api.OpPart, api.OpNot:
		kids = 1
	case api.OpAnd, api.OpOr:
		kids = r.Intn(4)
	}
	for range kids {
		f.Kids = append(f.Kids, randomFormula(v, r, levels-1))
	}
	if formula.Valid(f) != api.OK {
		return randomFormula(v, r, levels)
	}
	return f
}

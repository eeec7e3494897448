package syntax

import (
	"slices"
	"strconv"

	"priorart/api"
	"priorart/formula"
	"priorart/ratio"
	"priorart/span"
)

// reader reads a text by the grammar. Its methods leave it by a panic with a failure.
type reader struct {
	words Vocab
	text  string
	token token // the first one that is not taken yet
}

// failure is an error with its offset.
type failure struct {
	at int
	e  api.Errno
}

// read lets a reader of a text work, and returns the error with which the reader is left, and its offset.
func read(v Vocab, s string, work func(r *reader)) (at int, e api.Errno) {
	if e := Valid(v); e != api.OK {
		return 0, e
	}
	if len(s) > api.MaxText {
		return api.MaxText, api.ErrLimit
	}
	defer func() {
		switch x := recover().(type) {
		case nil:
		case failure:
			at, e = x.at, x.e
		default:
			panic(x)
		}
	}()
	r := &reader{words: v, text: s}
	r.pull()
	work(r)
	return 0, api.OK
}

// check leaves the reader unless e is OK.
func check(at int, e api.Errno) {
	if e != api.OK {
		panic(failure{at: at, e: e})
	}
}

// pull gets the next token, and no more than that.
func (r *reader) pull() {
	for t := range tokens(r.text, r.token.at+len(r.token.text)) {
		r.token = t
		return
	}
}

// next takes the token, whatever it is.
func (r *reader) next() token {
	t := r.token
	r.pull()
	return t
}

// take takes the token if it is the given one.
func (r *reader) take(text string) bool {
	is := r.token.text == text
	if is {
		r.pull()
	}
	return is
}

// need takes the token, which has to be the given one.
func (r *reader) need(text string) {
	if !r.take(text) {
		r.reject()
	}
}

// reject leaves the reader because nothing in the grammar goes on with the token.
func (r *reader) reject() {
	check(r.token.at, api.ErrForm)
}

// refs reads the references with which a claim can begin.
func (r *reader) refs() []int {
	if !r.take("of") {
		return nil
	}
	l := []int{r.ref(nil)}
	for r.take(",") {
		l = append(l, r.ref(l))
	}
	r.need(":")
	return l
}

// ref reads a reference; before are those in front of it.
func (r *reader) ref(before []int) int {
	t := r.number()
	n, _ := strconv.Atoi(t.text)
	switch {
	case len(t.text) > 2 || run(t.text, isDigit) < len(t.text):
		check(t.at, api.ErrForm)
	case n >= api.MaxClaims:
		check(t.at, api.ErrRange)
	case len(before) > 0 && n <= before[len(before)-1]:
		check(t.at, api.ErrOrder)
	case len(before) == api.MaxRefs:
		check(t.at, api.ErrLimit)
	}
	return n
}

// whole reads a formula with which the text ends.
func (r *reader) whole() api.Formula {
	f := r.formula()
	r.need("")
	check(r.token.at, formula.Valid(f))
	return f
}

// formula reads an item, or several that are joined by the same word.
func (r *reader) formula() api.Formula {
	f := r.item()
	op, word := api.OpAnd, r.token.text
	switch word {
	case "or":
		op = api.OpOr
		fallthrough
	case "and":
		f = api.Formula{Op: op, Kids: []api.Formula{f}}
		for r.take(word) {
			f.Kids = append(f.Kids, r.item())
		}
	}
	return f
}

// item reads an item.
func (r *reader) item() api.Formula {
	switch {
	case r.take("thing"):
		return api.Formula{Op: api.OpTrue}
	case r.take("part"):
		return api.Formula{Op: api.OpPart, Kids: []api.Formula{r.item()}}
	case r.take("not"):
		return api.Formula{Op: api.OpNot, Kids: []api.Formula{r.item()}}
	case r.take("all"):
		return api.Formula{Op: api.OpAnd, Kids: several(r, "(", ",", ")", r.formula)}
	case r.take("any"):
		return api.Formula{Op: api.OpOr, Kids: several(r, "(", ",", ")", r.formula)}
	case r.take("("):
		f := r.formula()
		r.need(")")
		return f
	}
	return r.feature()
}

// feature reads a class, or an attribute with a set.
func (r *reader) feature() api.Formula {
	if !isWord(r.token.text) || isKeyword(r.token.text) {
		r.reject()
	}
	name := r.next()
	if n := slices.Index(r.words.Classes, name.text); n >= 0 {
		return api.Formula{Op: api.OpClass, N: n}
	}
	n := slices.Index(r.words.Attrs, name.text)
	if n < 0 {
		check(name.at, api.ErrName)
	}
	r.need("in")
	return api.Formula{Op: api.OpValue, N: n, In: r.set()}
}

// set reads a set.
func (r *reader) set() []api.Interval {
	at := r.token.at
	l := several(r, "{", ";", "}", r.interval)
	check(at, span.Valid(l))
	return l
}

// several reads any number of elements with a mark between each two of them.
func several[E any](r *reader, begin, mark, end string, element func() E) []E {
	r.need(begin)
	if r.take(end) {
		return nil
	}
	l := []E{element()}
	for r.take(mark) {
		l = append(l, element())
	}
	r.need(end)
	return l
}

// interval reads an interval.
func (r *reader) interval() api.Interval {
	var x api.Interval
	r.low(&x)
	r.need(",")
	r.high(&x)
	return x
}

// low reads the lower end of an interval.
func (r *reader) low(x *api.Interval) {
	switch r.token.text {
	case "(":
		r.pull()
		if x.LoInf = r.take("*"); !x.LoInf {
			x.Lo, x.LoOpen = r.ratio(), true
		}
	case "[":
		r.pull()
		x.Lo = r.ratio()
	default:
		r.reject()
	}
}

// high reads the upper end of an interval.
func (r *reader) high(x *api.Interval) {
	if x.HiInf = r.take("*"); x.HiInf {
		r.need(")")
		return
	}
	x.Hi = r.ratio()
	if x.HiOpen = r.take(")"); !x.HiOpen {
		r.need("]")
	}
}

// ratio reads an end of an interval.
func (r *reader) ratio() api.Ratio {
	t := r.number()
	n, e := ratio.Parse(t.text)
	check(t.at, e)
	return n
}

// number takes the token, which has to be a number.
func (r *reader) number() token {
	if !isNumber(r.token.text) {
		r.reject()
	}
	return r.next()
}

package syntax

import (
	"strconv"
	"strings"

	"priorart/api"
	"priorart/ratio"
)

// printer writes the text of a valid claim, whose classes and attributes have names.
type printer struct {
	strings.Builder
	words Vocab
}

// refs writes the references of a claim, and nothing if there are none.
func (p *printer) refs(refs []int) {
	if len(refs) == 0 {
		return
	}
	p.WriteString("of ")
	list(p, ", ", refs, func(n int) { p.WriteString(strconv.Itoa(n)) })
	p.WriteString(": ")
}

// formula writes a formula.
func (p *printer) formula(f api.Formula) {
	switch f.Op {
	case api.OpTrue:
		p.WriteString("thing")
	case api.OpClass:
		p.WriteString(p.words.Classes[f.N])
	case api.OpValue:
		p.WriteString(p.words.Attrs[f.N])
		p.WriteString(" in {")
		list(p, "; ", f.In, p.interval)
		p.WriteString("}")
	case api.OpPart:
		p.WriteString("part ")
		p.item(f.Kids[0])
	case api.OpNot:
		p.WriteString("not ")
		p.item(f.Kids[0])
	case api.OpAnd:
		p.joined(f.Kids, "all", " and ")
	case api.OpOr:
		p.joined(f.Kids, "any", " or ")
	}
}

// item writes a formula where the grammar has an item.
func (p *printer) item(f api.Formula) {
	if !isJoined(f) {
		p.formula(f)
		return
	}
	p.WriteString("(")
	p.formula(f)
	p.WriteString(")")
}

// isJoined reports whether a formula is written as several items with a word between each two of them.
func isJoined(f api.Formula) bool {
	return (f.Op == api.OpAnd || f.Op == api.OpOr) && len(f.Kids) > 1
}

// joined writes kids with a word between each two of them; where there is no place for it, it writes the name of a list.
func (p *printer) joined(kids []api.Formula, name, word string) {
	if len(kids) > 1 {
		list(p, word, kids, p.item)
		return
	}
	p.WriteString(name)
	p.WriteString("(")
	list(p, ", ", kids, p.formula)
	p.WriteString(")")
}

// interval writes an interval.
func (p *printer) interval(x api.Interval) {
	p.WriteString(either(x.LoOpen || x.LoInf, "(", "["))
	p.WriteString(end(x.Lo, x.LoInf))
	p.WriteString(",")
	p.WriteString(end(x.Hi, x.HiInf))
	p.WriteString(either(x.HiOpen || x.HiInf, ")", "]"))
}

// list writes elements with a mark between each two of them.
func list[E any](p *printer, mark string, l []E, write func(x E)) {
	for i, x := range l {
		if i > 0 {
			p.WriteString(mark)
		}
		write(x)
	}
}

// end returns the text of an end of an interval.
func end(r api.Ratio, inf bool) string {
	if inf {
		return "*"
	}
	return ratio.Text(r)
}

// either returns one text of two.
func either(first bool, a, b string) string {
	if first {
		return a
	}
	return b
}

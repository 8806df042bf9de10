package read

import (
	"bytes"
	"strconv"
	"strings"

	"orrery/api"
	"orrery/lit"
	"orrery/net"
)

// The most that there may be: literals of a bus, parts of a line (those, a first word and a name), and a literal itself.
const (
	maxLits  = 64
	maxParts = maxLits + 2
	maxLit   = 2*lit.MaxNode + 1
)

// kind is which line of the document's table a line is.
type kind uint8

// The kinds.
const (
	model kind = iota
	input
	latch
	and
	output
	end
)

// line is what a line says; at is its first byte's place.
type line struct {
	at           int
	name         string
	drives, uses []lit.Lit
	kind         kind
	init         bool
}

// parse reads the lines, and refuses the first one that is none of the table, or not where it may be.
func (r *reader) parse() api.Fault {
	p := &parts{}
	forms := p.forms()
	for at := 0; at < len(r.text); {
		size := bytes.IndexByte(r.text[at:], '\n')
		if size < 0 {
			return api.Fault{Code: api.ErrForm, At: at}
		}
		p.open(string(r.text[at : at+size]))
		form, is := forms[p.next()]
		if !is {
			return api.Fault{Code: api.ErrForm, At: at}
		}
		l := form()
		l.at = at
		if !p.fit() || !r.mayCome(l.kind) {
			return api.Fault{Code: api.ErrForm, At: at}
		}
		r.lines = append(r.lines, l)
		at += size + 1
	}
	if !r.ended() {
		return api.Fault{Code: api.ErrForm, At: len(r.text)}
	}
	return api.Fault{}
}

// mayCome tells whether a line of this kind may stand behind those that are read.
func (r *reader) mayCome(k kind) bool {
	first := len(r.lines) == 0
	return first == (k == model) && !r.ended()
}

// ended tells whether the text's last line is read.
func (r *reader) ended() bool {
	last := len(r.lines) - 1
	return last >= 0 && r.lines[last].kind == end
}

// parts is what is left of a line's parts; wrong, if one was taken that may not stand there, or was wanting.
type parts struct {
	left  []string
	wrong bool
}

// forms is for each first word what takes the parts behind it.
func (p *parts) forms() map[string]func() line {
	return map[string]func() line{
		".model": func() line { return line{kind: model, name: p.name()} },
		".input": func() line { return line{kind: input, name: p.name(), drives: p.row(p.driven)} },
		".latch": func() line {
			return line{kind: latch, drives: []lit.Lit{p.driven()}, uses: []lit.Lit{p.literal(), p.literal()}, init: p.bit()}
		},
		".and": func() line {
			return line{kind: and, drives: []lit.Lit{p.driven()}, uses: []lit.Lit{p.literal(), p.literal()}}
		},
		".output": func() line { return line{kind: output, name: p.name(), uses: p.row(p.literal)} },
		".end":    func() line { return line{kind: end} },
	}
}

// open begins with a line's first part.
func (p *parts) open(text string) {
	// What is behind the most parts stays together, however much it is: a line of so many is refused anyway.
	p.left, p.wrong = strings.SplitN(text, " ", maxParts+1), false
}

// fit tells whether all parts were taken, and each one may stand where it does.
func (p *parts) fit() bool { return !p.wrong && len(p.left) == 0 }

// next takes a part: an empty one, which may stand nowhere, if there is none.
func (p *parts) next() string {
	if len(p.left) == 0 {
		return ""
	}
	part := p.left[0]
	p.left = p.left[1:]
	return part
}

// must notes that the line is wrong, if this does not hold.
func (p *parts) must(holds bool) { p.wrong = p.wrong || !holds }

// name takes a name.
func (p *parts) name() string {
	name := p.next()
	p.must(net.MayName(name))
	return name
}

// row takes all parts that are left, each by take: the literals of a bus.
func (p *parts) row(take func() lit.Lit) []lit.Lit {
	row := make([]lit.Lit, len(p.left))
	p.must(1 <= len(row) && len(row) <= maxLits)
	for i := range row {
		row[i] = take()
	}
	return row
}

// literal takes a literal.
func (p *parts) literal() lit.Lit {
	digits := p.next()
	n, err := strconv.ParseUint(digits, 10, 32)
	p.must(err == nil && n <= maxLit && (len(digits) == 1 || digits[0] != '0'))
	return lit.Lit(n)
}

// driven takes a literal that a line may drive.
func (p *parts) driven() lit.Lit {
	l := p.literal()
	p.must(!l.Turned() && l != lit.False)
	return l
}

// bit takes 0 or 1, and tells whether it is 1.
func (p *parts) bit() bool {
	digit := p.next()
	p.must(digit == "0" || digit == "1")
	return digit == "1"
}

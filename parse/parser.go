package parse

import "cavil/api"

// none is the kind of a token that is not there. No token of G has it.
const none = 0

// mostNested is how far calls may be nested. It is more than twice the levels of nesting up to which anything is promised, because some levels take two calls.
const mostNested = 1<<17 + 1<<10

// parser is a place in a file's tokens, and what is known of those ahead of it.
type parser struct {
	toks  []api.Token
	at    int        // index of the next token
	open  []int      // indices of the brackets that are not closed
	diags []api.Diag // what is wrong

	nested  int  // how far calls are nested
	tooDeep bool // whether they were nested too far

	unclosed bool // whether there are more brackets that open than such that close
	lostAt   int  // where the last part that was abandoned reached to, if what it is a part of can't go on there
}

func newParser(l []api.Token) *parser {
	p := &parser{toks: l, lostAt: -1}
	open := 0
	for _, t := range l {
		switch t.Kind {
		case api.TkLparen, api.TkLbrack, api.TkLbrace:
			open++
		case api.TkRparen, api.TkRbrack, api.TkRbrace:
			open--
		}
	}
	p.unclosed = open > 0
	return p
}

// kind returns the kind of token i.
func (p *parser) kind(i int) int {
	if i < len(p.toks) {
		return p.toks[i].Kind
	}
	return none
}

// peek returns the kind of the next token.
func (p *parser) peek() int {
	return p.kind(p.at)
}

// ended reports whether there is no next token.
func (p *parser) ended() bool {
	return p.at == len(p.toks)
}

// is reports whether the next token is of the kind.
func (p *parser) is(kind int) bool {
	return p.peek() == kind
}

// followedBy reports whether the token behind the next one is of the kind.
func (p *parser) followedBy(kind int) bool {
	return p.kind(p.at+1) == kind
}

// next takes a token.
func (p *parser) next() {
	switch p.peek() {
	case api.TkLparen, api.TkLbrack, api.TkLbrace:
		p.open = append(p.open, p.at)
	case api.TkRparen, api.TkRbrack, api.TkRbrace:
		p.open = p.open[:len(p.open)-1]
	}
	p.at++
}

// got takes a token of the kind, if it is the next one.
func (p *parser) got(kind int) bool {
	if !p.is(kind) {
		return false
	}
	p.next()
	return true
}

// need takes a token of the kind.
func (p *parser) need(kind int) {
	if !p.got(kind) {
		p.fail()
	}
}

// fault is what a part is abandoned with: the next token can't follow.
type fault struct{}

// fail abandons the part.
func (p *parser) fail() {
	panic(fault{})
}

// attempt parses, and reports whether nothing was abandoned. What is wrong otherwise is kept.
func (p *parser) attempt(parse func()) (whole bool) {
	nested := p.nested
	defer func() {
		r := recover()
		if r == nil {
			return
		}
		if _, ok := r.(fault); !ok {
			panic(r)
		}
		p.nested = nested
		p.report()
	}()
	parse()
	return true
}

// report keeps that the next token can't follow, unless as much is known already.
func (p *parser) report() {
	if n := len(p.diags); n > 0 && p.diags[n-1].Tok >= p.at {
		return
	}
	e := api.ErrSyntax
	if p.is(api.TkBad) {
		e = p.toks[p.at].Err
	}
	p.diags = append(p.diags, api.Diag{Tok: p.at, Err: e})
}

// nest parses what is nested in another part.
func (p *parser) nest(parse func() *part) *part {
	p.nested++
	if p.nested > mostNested {
		p.tooDeep = true
		p.at = len(p.toks)
		p.fail()
	}
	n := parse()
	p.nested--
	return n
}

// part returns a part of the tokens from from up to the next one.
func (p *parser) part(kind, from int, kids ...*part) *part {
	return &part{kind: kind, from: from, to: p.at, kids: kids}
}

// empty returns a part that is missing.
func (p *parser) empty() *part {
	return p.part(api.NdEmpty, p.at)
}

// list parses what commas separate.
func (p *parser) list(one func() *part) *part {
	return p.listFrom(one(), one)
}

// listFrom parses what is left of a list behind its first element.
func (p *parser) listFrom(first *part, one func() *part) *part {
	l := []*part{first}
	for p.got(api.TkComma) {
		l = append(l, one())
	}
	return p.part(api.NdList, first.from, l...)
}

// closedList parses what commas separate, of which the last one may stand behind the last element, ahead of what closes the list.
func (p *parser) closedList(closer int, one func() *part) *part {
	from := p.at
	l := []*part{one()}
	for p.got(api.TkComma) && !p.is(closer) {
		l = append(l, one())
	}
	return p.part(api.NdList, from, l...)
}

// lines parses what semicolons separate, up to what closes it.
func (p *parser) lines(closer int, one func() *part) []*part {
	var l []*part
	for !p.is(closer) {
		l = append(l, one())
		if !p.got(api.TkSemi) {
			break
		}
	}
	p.need(closer)
	return l
}

package parse

import (
	"cavil/api"
	"cavil/token"
)

// block parses a block. It may lack its last brace if the file does.
func (p *parser) block() *part {
	from := p.at
	p.need(api.TkLbrace)
	l := p.statements(p.atBrace)
	p.endBlock()
	return p.part(api.NdBlock, from, l...)
}

// endBlock takes the brace behind statements or clauses.
func (p *parser) endBlock() {
	if !p.lost() {
		p.need(api.TkRbrace)
	}
}

func (p *parser) atBrace() bool {
	return p.is(api.TkRbrace)
}

func (p *parser) atClause() bool {
	return p.is(api.TkCase) || p.is(api.TkDefault)
}

// atClauseEnd reports whether the statements of a clause may end here.
func (p *parser) atClauseEnd() bool {
	return p.atBrace() || p.atClause()
}

// statements parses statements up to where they may end.
func (p *parser) statements(atEnd func() bool) []*part {
	ends := func() bool { return p.is(api.TkSemi) || atEnd() || p.lost() }
	resume := func(from, base int) { p.toStatement(from, base, atEnd) }
	var l []*part
	for {
		l = append(l, p.recovering(p.statement, ends, resume)...)
		if !p.got(api.TkSemi) {
			return l
		}
	}
}

// statement parses a statement. An empty one is no part.
func (p *parser) statement() *part {
	return p.nest(func() *part {
		switch p.peek() {
		case api.TkConst, api.TkVar:
			return p.declaration()
		case api.TkType:
			return p.localType()
		case api.TkLbrace:
			return p.block()
		case api.TkIf:
			return p.ifStatement()
		case api.TkSwitch:
			return p.switchStatement()
		case api.TkSelect:
			return p.selectStatement()
		case api.TkFor:
			return p.forStatement()
		case api.TkName:
			if p.followedBy(api.TkColon) {
				return p.label()
			}
		}
		return p.smallStatement()
	})
}

// smallStatement parses a statement without a block of its own.
func (p *parser) smallStatement() *part {
	from := p.at
	switch p.peek() {
	case api.TkGo:
		p.next()
		return p.part(api.NdGo, from, p.value())
	case api.TkDefer:
		p.next()
		return p.part(api.NdDefer, from, p.value())
	case api.TkReturn:
		p.next()
		return p.part(api.NdReturn, from, p.unless(!beginsExpression(p.peek()), func() *part { return p.values(0) }))
	case api.TkBreak:
		p.next()
		return p.part(api.NdBreak, from, p.unless(!p.is(api.TkName), p.name))
	case api.TkContinue:
		p.next()
		return p.part(api.NdContinue, from, p.unless(!p.is(api.TkName), p.name))
	case api.TkGoto:
		p.next()
		return p.part(api.NdGoto, from, p.name())
	case api.TkFallthrough:
		p.next()
		return p.part(api.NdFall, from)
	}
	if !beginsExpression(p.peek()) {
		return nil
	}
	return p.simple(0)
}

// beginsExpression reports whether a token of the kind begins an expression.
func beginsExpression(kind int) bool {
	switch kind {
	case api.TkName, api.TkInt, api.TkFloat, api.TkChar, api.TkString, api.TkLparen, api.TkFunc:
		return true
	}
	return token.Unary(kind) || beginsLiteral(kind)
}

// unless parses, unless the part is missing.
func (p *parser) unless(missing bool, parse func() *part) *part {
	if missing {
		return p.empty()
	}
	return parse()
}

func (p *parser) label() *part {
	name := p.name()
	p.next()
	s := p.statement()
	if s == nil {
		s = p.empty()
	}
	return p.part(api.NdLabel, name.from, name, s)
}

// simple parses a simple statement; what a type switch looks at too, if the mode has it.
func (p *parser) simple(m mode) *part {
	return p.simpleBehind(p.values(m), m)
}

// simpleBehind parses what is left of a simple statement behind the expressions that it begins with.
func (p *parser) simpleBehind(l *part, m mode) *part {
	x, kind := l.kids[0], p.peek()
	switch {
	case kind == api.TkAssign, kind == api.TkDefine && areNames(l):
		return p.assignment(l, m)
	case len(l.kids) > 1:
		p.fail()
	case m&guard != 0 && p.atTypeGuard():
		return p.typeGuard(&part{kind: api.NdEmpty, from: x.from, to: x.from}, x)
	case kind == api.TkArrow:
		p.next()
		return p.part(api.NdSend, x.from, x, p.expression(m&header))
	case kind == api.TkInc, kind == api.TkDec:
		p.next()
		return p.part(api.NdIncDec, x.from, x)
	case token.Base(kind) != 0:
		p.next()
		y := p.expression(m & header)
		return p.part(api.NdAssign, x.from, l, &part{kind: api.NdList, from: y.from, to: y.to, kids: []*part{y}})
	}
	return p.part(api.NdExprS, x.from, x)
}

// areNames reports whether all parts of a list are names.
func areNames(l *part) bool {
	for _, n := range l.kids {
		if n.kind != api.NdName {
			return false
		}
	}
	return true
}

// assignment parses what is left of an assignment or a definition behind its left side.
func (p *parser) assignment(l *part, m mode) *part {
	kind := api.NdAssign
	if p.is(api.TkDefine) {
		kind = api.NdDefine
	}
	if kind == api.NdAssign || len(l.kids) > 1 {
		m &^= guard
	}
	p.next()
	values := p.values(m)
	if m&guard != 0 && p.atTypeGuard() {
		return p.typeGuard(l.kids[0], values.kids[0])
	}
	return p.part(kind, l.from, l, values)
}

// atTypeGuard reports whether .(type) follows.
func (p *parser) atTypeGuard() bool {
	return p.is(api.TkPeriod) && p.followedBy(api.TkLparen) && p.kind(p.at+2) == api.TkType
}

// typeGuard parses what is left of what a type switch looks at, behind its expression.
func (p *parser) typeGuard(name, x *part) *part {
	p.need(api.TkPeriod)
	p.need(api.TkLparen)
	p.need(api.TkType)
	p.need(api.TkRparen)
	return p.part(api.NdGuard, name.from, name, x)
}

// condition returns the expression that a statement in a header is, which nothing but a block may follow.
func (p *parser) condition(s *part) *part {
	if s.kind != api.NdExprS {
		p.fail()
	}
	return s.kids[0]
}

func (p *parser) ifStatement() *part {
	from := p.at
	p.next()
	init, s := p.empty(), p.simple(header)
	var cond *part
	if p.got(api.TkSemi) {
		init, cond = s, p.expression(header)
	} else {
		cond = p.condition(s)
	}
	body, other := p.block(), p.empty()
	if p.got(api.TkElse) {
		if p.is(api.TkIf) {
			other = p.nest(p.ifStatement)
		} else {
			other = p.block()
		}
	}
	return p.part(api.NdIf, from, init, cond, body, other)
}

func (p *parser) switchStatement() *part {
	from := p.at
	p.next()
	init, tag := p.empty(), p.empty()
	if !p.is(api.TkLbrace) {
		switch s := p.simple(header | guard); {
		case s.kind == api.NdGuard:
			tag = s
		case p.got(api.TkSemi):
			init, tag = s, p.switchTag()
		default:
			tag = p.condition(s)
		}
	}
	kind := api.NdSwitch
	if tag.kind == api.NdGuard {
		kind = api.NdTypeSwitch
	}
	p.need(api.TkLbrace)
	cases := p.at
	l := p.clauses(api.NdCase, func() *part { return p.list(p.item) })
	list := p.part(api.NdList, cases, l...)
	p.endBlock()
	return p.part(kind, from, init, tag, list)
}

// switchTag parses what a switch looks at, behind the semicolon of its header.
func (p *parser) switchTag() *part {
	if p.is(api.TkLbrace) {
		return p.empty()
	}
	none := p.empty()
	if p.is(api.TkName) && p.followedBy(api.TkDefine) {
		name := p.name()
		p.next()
		return p.typeGuard(name, p.primary(header|guard))
	}
	x := p.expression(header | guard)
	if p.atTypeGuard() {
		return p.typeGuard(none, x)
	}
	return x
}

func (p *parser) selectStatement() *part {
	from := p.at
	p.next()
	p.need(api.TkLbrace)
	l := p.clauses(api.NdComm, func() *part { return p.simple(0) })
	p.endBlock()
	return p.part(api.NdSelect, from, l...)
}

// clauses parses the clauses of a statement, each with what its case has.
func (p *parser) clauses(kind int, of func() *part) []*part {
	var l []*part
	for p.atClause() {
		from := p.at
		p.next()
		what := p.unless(p.kind(from) == api.TkDefault, of)
		p.need(api.TkColon)
		first := p.at
		body := p.statements(p.atClauseEnd)
		l = append(l, p.part(kind, from, what, p.part(api.NdList, first, body...)))
	}
	return l
}

func (p *parser) forStatement() *part {
	from := p.at
	p.next()
	init := p.empty()
	switch {
	case p.is(api.TkLbrace):
		return p.forBody(from, init, p.empty(), p.empty())
	case p.is(api.TkRange):
		return p.rangeBody(from, init)
	case !p.is(api.TkSemi):
		l := p.values(header)
		if p.followedBy(api.TkRange) && (p.is(api.TkAssign) || p.is(api.TkDefine) && areNames(l)) {
			p.next()
			return p.rangeBody(from, l)
		}
		s := p.simpleBehind(l, header)
		if !p.is(api.TkSemi) {
			return p.forBody(from, init, p.condition(s), p.empty())
		}
		init = s
	}
	p.need(api.TkSemi)
	cond := p.unless(p.is(api.TkSemi), func() *part { return p.expression(header) })
	p.need(api.TkSemi)
	post := p.unless(p.is(api.TkLbrace), func() *part { return p.simple(header) })
	return p.forBody(from, init, cond, post)
}

func (p *parser) forBody(from int, init, cond, post *part) *part {
	return p.part(api.NdFor, from, init, cond, post, p.block())
}

func (p *parser) rangeBody(from int, targets *part) *part {
	p.next()
	return p.part(api.NdRange, from, targets, p.expression(header), p.block())
}

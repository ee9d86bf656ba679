package parse

import "cavil/api"

// recovering parses one of several parts that follow each other, which must end where ends tells. If it has to be abandoned, resume goes on to where the next one can be parsed, and a Bad stands for what is between.
func (p *parser) recovering(one func() *part, ends func() bool, resume func(from, base int)) []*part {
	from, base := p.at, len(p.open)
	var n *part
	whole := p.attempt(func() {
		n = one()
		if !ends() {
			p.fail()
		}
	})
	if !whole {
		resume(from, base)
	}
	p.open = p.open[:base]
	switch {
	case whole && n == nil:
		return nil
	case whole:
		return []*part{n}
	case n == nil, n.kind == api.NdExprS:
		// An expression that something else follows was hardly meant to be a statement.
		return []*part{p.part(api.NdBad, from)}
	}
	return []*part{n, p.part(api.NdBad, n.to)}
}

// lost reports whether what is being parsed can't go on, though it is not finished, because the part of it that was abandoned reached to the end, or up to the next declaration of the file.
func (p *parser) lost() bool {
	return p.lostAt == p.at
}

// pass goes over a token of a part that was abandoned, in which no bracket ahead of those from index base on is to be closed. A bad token is wrong wherever it stands.
func (p *parser) pass(base int) {
	switch kind := p.peek(); kind {
	case api.TkBad:
		p.report()
	case api.TkLparen, api.TkLbrack, api.TkLbrace:
		p.open = append(p.open, p.at)
	case api.TkRparen, api.TkRbrack, api.TkRbrace:
		if n := len(p.open); n > base && closer(p.kind(p.open[n-1])) == kind {
			p.open = p.open[:n-1]
		}
	}
	p.at++
}

// closer returns the kind that closes a bracket.
func closer(kind int) int {
	switch kind {
	case api.TkLparen:
		return api.TkRparen
	case api.TkLbrack:
		return api.TkRbrack
	}
	return api.TkRbrace
}

// closeUntil gives up the innermost brackets down to one that has to stay, and reports whether there is none.
func (p *parser) closeUntil(base int, stays func(i int) bool) bool {
	for len(p.open) > base && !stays(p.open[len(p.open)-1]) {
		p.open = p.open[:len(p.open)-1]
	}
	return len(p.open) == base
}

// isBrace reports whether token i is a brace that opens.
func (p *parser) isBrace(i int) bool {
	return p.kind(i) == api.TkLbrace
}

// holdsLines reports whether the bracket at token i may have semicolons in it.
func (p *parser) holdsLines(i int) bool {
	return p.isBrace(i) || p.kind(i) == api.TkLparen && i > 0 && beginsImport(p.kind(i-1))
}

// closerFollows reports whether the innermost bracket is closed right behind the next token, which then was hardly meant to end what the bracket is in.
func (p *parser) closerFollows(base int) bool {
	n := len(p.open)
	return n > base && p.followedBy(closer(p.kind(p.open[n-1])))
}

// toDeclaration goes on to the semicolon ahead of a declaration of the file.
func (p *parser) toDeclaration(base int, begins func(kind int) bool) {
	for ; !p.ended() && !p.opensFunction(p.at); p.pass(base) {
		switch p.peek() {
		case api.TkRbrace:
			p.closeUntil(base, p.isBrace)
		case api.TkSemi:
			ended := p.closeUntil(base, p.holdsLines)
			if last := p.at == len(p.toks)-1; ended && (last || begins(p.kind(p.at+1))) {
				return
			}
		}
	}
	p.lostAt = p.at
}

// toStatement goes on to where the statement that begins at from may end.
func (p *parser) toStatement(from, base int, atEnd func() bool) {
	if p.opensFunction(from) {
		p.at = from
	}
	semis := p.semisAhead(from)
	for ; !p.ended() && !p.opensFunction(p.at); p.pass(base) {
		switch p.peek() {
		case api.TkRbrace:
			if p.closeUntil(base, p.isBrace) {
				return
			}
		case api.TkCase, api.TkDefault:
			if len(p.open) == base && atEnd() {
				return
			}
		case api.TkLbrace:
			semis = 0
		case api.TkSemi:
			if p.closerFollows(base) || !p.closeUntil(base, p.holdsLines) {
				continue
			}
			if !p.bodyFollows(semis) {
				return
			}
			semis--
		}
	}
	p.lostAt = p.at
}

// opensFunction reports whether a function of the file is declared from token i on, in a file where a function ahead of it may not be closed.
func (p *parser) opensFunction(i int) bool {
	if !p.unclosed || p.kind(i) != api.TkFunc {
		return false
	}
	i++
	if p.kind(i) == api.TkLparen {
		i++
		for p.mayStandInReceiver(i) {
			i++
		}
		if p.kind(i) != api.TkRparen {
			return false
		}
		i++
		return p.kind(i) == api.TkName && p.kind(i+1) == api.TkLparen
	}
	return p.kind(i) == api.TkName
}

// mayStandInReceiver reports whether token i is of a kind that stands between a receiver's parentheses.
func (p *parser) mayStandInReceiver(i int) bool {
	switch p.kind(i) {
	case api.TkName, api.TkMul, api.TkLbrack, api.TkComma, api.TkRbrack:
		return true
	}
	return false
}

// semisAhead returns how many semicolons there can be ahead of the body of the statement that begins at from, if it was abandoned ahead of its first brace.
func (p *parser) semisAhead(from int) int {
	semis := 0
	switch p.kind(from) {
	case api.TkFor:
		semis = 2
	case api.TkIf, api.TkSwitch:
		semis = 1
	}
	for i := from; i < p.at && semis > 0; i++ {
		if p.isBrace(i) {
			semis = 0
		}
	}
	return semis
}

// bodyFollows reports whether the next token, a semicolon, looks like one of the last ones, of which there can be so many, in a statement's header: a brace follows ahead of what begins another statement.
func (p *parser) bodyFollows(semis int) bool {
	for i := p.at; i < len(p.toks) && semis > 0; i++ {
		switch kind := p.kind(i); {
		case kind == api.TkSemi && i > p.at:
			semis--
		case kind == api.TkLbrace:
			return true
		case kind == api.TkRbrace, kind == api.TkDefine, kind >= api.TkBreak && kind <= api.TkVar:
			return false
		}
	}
	return false
}

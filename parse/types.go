package parse

import "cavil/api"

// beginsType reports whether a token of the kind begins a type.
func beginsType(kind int) bool {
	switch kind {
	case api.TkName, api.TkMul, api.TkLparen, api.TkFunc, api.TkArrow:
		return true
	}
	return beginsLiteral(kind)
}

// beginsLiteral reports whether a token of the kind begins a type literal, other than one of a function or of a pointer.
func beginsLiteral(kind int) bool {
	switch kind {
	case api.TkLbrack, api.TkMap, api.TkStruct, api.TkChan, api.TkInterface:
		return true
	}
	return false
}

func (p *parser) name() *part {
	from := p.at
	p.need(api.TkName)
	return p.part(api.NdName, from).as(value | typed | named | converts)
}

func (p *parser) typ() *part {
	return p.typeOf(false)
}

// typeOf parses a type: with plain, one that does not end with a function type, as it stands ahead of what is converted to it.
func (p *parser) typeOf(plain bool) *part {
	if !p.is(api.TkArrow) {
		return p.arrowless(plain)
	}
	from := p.at
	p.next()
	p.need(api.TkChan)
	return p.literalOf(api.NdChanT, from, p.arrowless(plain))
}

// arrowless parses a type that does not begin with an arrow.
func (p *parser) arrowless(plain bool) *part {
	return p.nest(func() *part {
		from := p.at
		switch p.peek() {
		case api.TkName:
			return p.typeName()
		case api.TkMul:
			p.next()
			return p.literalOf(api.NdPointer, from, p.typeOf(plain))
		case api.TkLparen:
			p.next()
			inner := p.typ()
			p.need(api.TkRparen)
			return p.part(api.NdParen, from, inner).as(typed | converts)
		case api.TkFunc:
			if plain {
				p.fail()
			}
			p.next()
			return p.part(api.NdFuncT, from, p.signature()).as(typed)
		}
		return p.literal(plain)
	})
}

// typeName parses the name of a type, with its package and its type arguments.
func (p *parser) typeName() *part {
	n := p.name()
	if p.got(api.TkPeriod) {
		n = p.part(api.NdSelector, n.from, n, p.name()).as(n.form)
	}
	if p.got(api.TkLbrack) {
		l := p.closedList(api.TkRbrack, p.typ)
		p.need(api.TkRbrack)
		n = p.part(api.NdIndex, n.from, n, l).as(n.form)
	}
	return n
}

// literal parses a type literal, other than one of a function or of a pointer.
func (p *parser) literal(plain bool) *part {
	from := p.at
	switch p.peek() {
	case api.TkLbrack:
		return p.sliceOrArray(plain)
	case api.TkMap:
		p.next()
		p.need(api.TkLbrack)
		key := p.typ()
		p.need(api.TkRbrack)
		return p.literalOf(api.NdMapT, from, key, p.typeOf(plain))
	case api.TkChan:
		p.next()
		if p.got(api.TkArrow) {
			return p.literalOf(api.NdChanT, from, p.typeOf(plain))
		}
		return p.literalOf(api.NdChanT, from, p.arrowless(plain))
	case api.TkStruct:
		return p.braced(api.NdStructT, p.field)
	case api.TkInterface:
		return p.braced(api.NdInterT, p.elem)
	}
	p.fail()
	return nil
}

// literalOf returns a type literal that ends with its last child.
func (p *parser) literalOf(kind, from int, kids ...*part) *part {
	tail := kids[len(kids)-1]
	return p.part(kind, from, kids...).as(typed | tail.form&converts)
}

// braced parses a type literal that has its parts in braces.
func (p *parser) braced(kind int, one func() *part) *part {
	from := p.at
	p.next()
	p.need(api.TkLbrace)
	return p.part(kind, from, p.lines(api.TkRbrace, one)...).as(typed | converts)
}

func (p *parser) sliceOrArray(plain bool) *part {
	from := p.at
	p.next()
	if p.got(api.TkRbrack) {
		return p.literalOf(api.NdSliceT, from, p.typeOf(plain))
	}
	length := p.length()
	p.need(api.TkRbrack)
	return p.literalOf(api.NdArrayT, from, length, p.typeOf(plain))
}

// length parses the length of an array.
func (p *parser) length() *part {
	from := p.at
	if p.got(api.TkInt) {
		return p.part(api.NdLit, from)
	}
	n := p.name()
	if p.got(api.TkPeriod) {
		n = p.part(api.NdSelector, from, n, p.name())
	}
	return n
}

// bracketsBehind parses what begins with a bracket behind a name. That is either the type of what has the name, which it reports, or it makes the name an embedded field's or a parameter's type with type arguments.
func (p *parser) bracketsBehind(name *part) (t *part, declares bool) {
	if p.followedBy(api.TkRbrack) || p.followedBy(api.TkInt) {
		return p.typ(), true
	}
	from := p.at
	p.next()
	l := p.closedList(api.TkRbrack, p.typ)
	p.need(api.TkRbrack)
	// Only what follows tells [n] of an array from that of type arguments.
	if isLength(l) && beginsType(p.peek()) {
		return p.part(api.NdArrayT, from, l.kids[0], p.typ()), true
	}
	return p.part(api.NdIndex, name.from, name, l), false
}

// isLength reports whether a list of types can be the length of an array.
func isLength(l *part) bool {
	first := l.kids[0]
	return l.to == first.to && (first.kind == api.NdName || first.kind == api.NdSelector)
}

// field parses the fields of a struct that stand on one line.
func (p *parser) field() *part {
	from := p.at
	none := p.empty()
	if p.got(api.TkMul) {
		t := p.typeName()
		return p.part(api.NdField, from, none, p.part(api.NdPointer, from, t))
	}
	if p.followedBy(api.TkPeriod) {
		return p.part(api.NdField, from, none, p.typeName())
	}
	first := p.name()
	switch {
	case p.is(api.TkLbrack):
		t, declares := p.bracketsBehind(first)
		if !declares {
			return p.part(api.NdField, from, none, t)
		}
		return p.part(api.NdField, from, &part{kind: api.NdList, from: from, to: first.to, kids: []*part{first}}, t)
	case p.is(api.TkSemi), p.is(api.TkRbrace):
		return p.part(api.NdField, from, none, first)
	}
	return p.part(api.NdField, from, p.listFrom(first, p.name), p.typ())
}

// elem parses a method or a union of an interface.
func (p *parser) elem() *part {
	from := p.at
	if !p.is(api.TkName) || !p.followedBy(api.TkLparen) {
		return p.union()
	}
	return p.part(api.NdMethod, from, p.name(), p.signature())
}

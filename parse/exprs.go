package parse

import (
	"cavil/api"
	"cavil/token"
)

// mode tells what an expression may be where it stands.
type mode int

const (
	header  mode = 1 << iota // a brace behind a name begins the block of a statement
	item                     // it may be a type instead
	guard                    // it may be what a type switch looks at: it ends ahead of .(type) then
	arrowed                  // an arrow stands ahead of it, with which it may be a type
)

// value parses an expression.
func (p *parser) value() *part {
	return p.expression(0)
}

// item parses an expression or a type.
func (p *parser) item() *part {
	return p.expression(item)
}

// values parses a list of expressions.
func (p *parser) values(m mode) *part {
	return p.listFrom(p.expression(m), func() *part { return p.expression(m &^ guard) })
}

// expression parses an expression; a type too, if the mode has it.
func (p *parser) expression(m mode) *part {
	x := p.unary(m)
	if !x.is(value) {
		return x
	}
	return p.binary(x, 1, m&header)
}

// binary parses what is left of an expression behind its first operand: the operators of at least some precedence, with their operands.
func (p *parser) binary(x *part, least int, m mode) *part {
	for {
		prec := token.Prec(p.peek())
		if prec < least {
			return x
		}
		p.next()
		y := p.unary(m)
		if token.Prec(p.peek()) > prec {
			y = p.binary(y, prec+1, m)
		}
		x = p.part(api.NdBinary, x.from, x, y).as(value)
	}
}

// unary parses an operand with the operators ahead of it.
func (p *parser) unary(m mode) *part {
	return p.nest(func() *part {
		if !token.Unary(p.peek()) {
			return p.primary(m)
		}
		from := p.at
		p.next()
		x := p.unary(p.behindOperator(m))
		return p.part(api.NdUnary, from, x).as(p.unaryForm(from, x))
	})
}

// behindOperator returns what the operand of the operator that was just taken may be.
func (p *parser) behindOperator(m mode) mode {
	inner := m & header
	switch op := p.kind(p.at - 1); {
	case op == api.TkMul:
		inner |= m & item
	case op == api.TkArrow && p.is(api.TkChan):
		inner |= m&item | arrowed
	}
	return inner
}

// unaryForm returns the form of the operator at from with its operand.
func (p *parser) unaryForm(from int, x *part) form {
	f := x.form & value
	switch op := p.kind(from); {
	case op == api.TkMul, op == api.TkArrow && x.kind == api.NdChanT:
		f |= x.form & typed
	}
	return f
}

// primary parses an operand with what stands behind it.
func (p *parser) primary(m mode) *part {
	x := p.operand(m)
	for x.is(value) {
		switch p.peek() {
		case api.TkPeriod:
			if m&guard != 0 && p.atTypeGuard() {
				return x
			}
			x = p.selection(x)
		case api.TkLbrack:
			x = p.index(x)
		case api.TkLparen:
			x = p.call(x)
		case api.TkLbrace:
			if m&header != 0 || !x.is(named) {
				return x
			}
			x = p.composite(p.asType(x))
		default:
			return x
		}
	}
	return x
}

func (p *parser) operand(m mode) *part {
	from := p.at
	switch p.peek() {
	case api.TkName:
		return p.name()
	case api.TkInt, api.TkFloat, api.TkChar, api.TkString:
		p.next()
		return p.part(api.NdLit, from).as(value)
	case api.TkLparen:
		p.next()
		x := p.item()
		p.need(api.TkRparen)
		return p.part(api.NdParen, from, x).as(value | x.form&typed)
	case api.TkFunc:
		return p.funcOperand(m)
	case api.TkLbrack:
		if p.followedBy(api.TkEllipsis) {
			return p.countedArray()
		}
	}
	return p.literalOperand(m)
}

// funcOperand parses a function literal, or a function type.
func (p *parser) funcOperand(m mode) *part {
	from := p.at
	p.next()
	s := p.signature()
	if m&item != 0 && !p.is(api.TkLbrace) {
		return p.part(api.NdFuncT, from, s).as(typed)
	}
	return p.part(api.NdFuncLit, from, s, p.block()).as(value)
}

// countedArray parses a composite literal of an array whose length is that of its elements.
func (p *parser) countedArray() *part {
	from := p.at
	p.next()
	length := p.empty()
	p.next()
	p.need(api.TkRbrack)
	return p.composite(p.part(api.NdArrayT, from, length, p.typ()))
}

// literalOperand parses a composite literal, a conversion, or a type, which begins with a type literal.
func (p *parser) literalOperand(m mode) *part {
	kind := p.peek()
	composes := kind != api.TkChan && kind != api.TkInterface
	isType := m&item != 0
	if kind == api.TkChan && m&arrowed != 0 && p.followedBy(api.TkArrow) {
		isType = false // <-chan<- begins no type
	}
	t := p.literal(!composes && !isType)
	switch {
	case composes && p.is(api.TkLbrace):
		return p.composite(t)
	case t.is(converts) && p.is(api.TkLparen):
		return p.call(t)
	case !isType:
		p.fail()
	}
	return t
}

// composite parses what is left of a composite literal behind its type.
func (p *parser) composite(t *part) *part {
	return p.part(api.NdCompLit, t.from, t, p.elems()).as(value)
}

// elems parses the elements of a composite literal with their braces.
func (p *parser) elems() *part {
	return p.nest(func() *part {
		from := p.at
		p.need(api.TkLbrace)
		var l []*part
		if !p.is(api.TkRbrace) {
			l = p.closedList(api.TkRbrace, p.element).kids
		}
		p.need(api.TkRbrace)
		return p.part(api.NdElems, from, l...)
	})
}

func (p *parser) element() *part {
	x := p.elementValue()
	if p.got(api.TkColon) {
		return p.part(api.NdKeyValue, x.from, x, p.elementValue())
	}
	return x
}

func (p *parser) elementValue() *part {
	if p.is(api.TkLbrace) {
		return p.elems()
	}
	return p.value()
}

// selection parses what is left of a selector or an assertion.
func (p *parser) selection(x *part) *part {
	p.next()
	if p.got(api.TkLparen) {
		t := p.typ()
		p.need(api.TkRparen)
		return p.part(api.NdAssert, x.from, x, t).as(value)
	}
	f := value
	if x.kind == api.NdName {
		f = x.form
	}
	return p.part(api.NdSelector, x.from, x, p.name()).as(f)
}

// index parses what is left of an index or a slice expression.
func (p *parser) index(x *part) *part {
	p.next()
	if p.is(api.TkColon) {
		return p.slice(x, p.empty())
	}
	from := p.at
	first := p.item()
	if first.is(value) && p.is(api.TkColon) {
		return p.slice(x, first)
	}
	l := []*part{first}
	for p.got(api.TkComma) && !p.is(api.TkRbrack) {
		l = append(l, p.item())
	}
	list := p.part(api.NdList, from, l...)
	p.need(api.TkRbrack)
	return p.part(api.NdIndex, x.from, x, list).as(indexForm(x, l))
}

// indexForm returns the form of an index expression.
func indexForm(x *part, l []*part) form {
	if !x.is(named) || x.kind == api.NdIndex {
		return value
	}
	for _, n := range l {
		if !n.is(typed) {
			return value
		}
	}
	return x.form
}

// slice parses what is left of a slice expression behind its first bound.
func (p *parser) slice(x, first *part) *part {
	p.next()
	second, third := p.empty(), p.empty()
	if !p.is(api.TkRbrack) {
		second = p.value()
		third = p.empty()
		if p.got(api.TkColon) {
			third = p.value()
		}
	}
	p.need(api.TkRbrack)
	return p.part(api.NdSliceX, x.from, x, first, second, third).as(value)
}

// call parses what is left of a call, or of a conversion.
func (p *parser) call(x *part) *part {
	p.next()
	from := p.at
	var l []*part
	for !p.is(api.TkRparen) {
		arg := p.item()
		l = append(l, arg)
		if arg.is(value) && p.got(api.TkEllipsis) {
			p.got(api.TkComma)
			break
		}
		if !p.got(api.TkComma) {
			break
		}
	}
	args := p.part(api.NdList, from, l...)
	p.need(api.TkRparen)
	return p.part(api.NdCall, x.from, x, args).as(value)
}

// asType makes a type of what was parsed as an expression and turned out to stand where only a type can.
func (p *parser) asType(n *part) *part {
	switch n.kind {
	case api.NdUnary:
		inner := n.kids[0]
		if p.kind(n.from) == api.TkArrow {
			return &part{kind: api.NdChanT, from: n.from, to: n.to, kids: inner.kids, form: n.form}
		}
		n.kind = api.NdPointer
		n.kids[0] = p.asType(inner)
	case api.NdParen:
		n.kids[0] = p.asType(n.kids[0])
	case api.NdIndex:
		args := n.kids[1].kids
		for i := range args {
			args[i] = p.asType(args[i])
		}
	}
	return n
}

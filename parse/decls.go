package parse

import "cavil/api"

// declaration parses a declaration of a file.
func (p *parser) declaration() *part {
	switch p.peek() {
	case api.TkConst:
		return p.group(api.NdConstDecl, p.constSpec)
	case api.TkVar:
		return p.group(api.NdVarDecl, p.varSpec)
	case api.TkType:
		return p.group(api.NdTypeDecl, p.typeSpec)
	case api.TkFunc:
		return p.function()
	}
	p.fail()
	return nil
}

func (p *parser) importDecl() *part {
	if !p.is(api.TkImport) {
		p.fail()
	}
	return p.group(api.NdImportDecl, p.importSpec)
}

// group parses a declaration of one spec, or of several ones in parentheses.
func (p *parser) group(kind int, spec func() *part) *part {
	from := p.at
	p.next()
	if p.got(api.TkLparen) {
		return p.part(kind, from, p.lines(api.TkRparen, spec)...)
	}
	return p.part(kind, from, spec())
}

func (p *parser) importSpec() *part {
	from := p.at
	name := p.empty()
	if p.is(api.TkName) {
		name = p.name()
	}
	path := p.at
	p.need(api.TkString)
	return p.part(api.NdImport, from, name, p.part(api.NdLit, path))
}

func (p *parser) constSpec() *part {
	from := p.at
	names, t, values := p.list(p.name), p.empty(), p.empty()
	switch {
	case p.got(api.TkAssign):
		values = p.list(p.value)
	case beginsType(p.peek()):
		t = p.typ()
		p.need(api.TkAssign)
		values = p.list(p.value)
	}
	return p.part(api.NdConstSpec, from, names, t, values)
}

func (p *parser) varSpec() *part {
	from := p.at
	names, t := p.list(p.name), p.empty()
	if !p.is(api.TkAssign) {
		t = p.typ()
	}
	values := p.empty()
	if p.got(api.TkAssign) {
		values = p.list(p.value)
	}
	return p.part(api.NdVarSpec, from, names, t, values)
}

func (p *parser) typeSpec() *part {
	from := p.at
	name, params := p.name(), p.empty()
	if p.is(api.TkLbrack) && p.followedBy(api.TkName) && !endsLength(p.kind(p.at+2)) {
		params = p.typeParams()
	}
	return p.part(api.NdTypeSpec, from, name, params, p.typ())
}

// localType parses the declaration of a type within a function, which has one spec alone and no type parameters.
func (p *parser) localType() *part {
	from := p.at
	p.next()
	name, params := p.name(), p.empty()
	spec := p.part(api.NdTypeSpec, name.from, name, params, p.typ())
	return p.part(api.NdTypeDecl, from, spec)
}

// endsLength reports whether a name ahead of a token of the kind is the length of an array, or the beginning of one, where it may be a type parameter too.
func endsLength(kind int) bool {
	return kind == api.TkRbrack || kind == api.TkPeriod
}

// typeParams parses type parameters with their brackets, and returns their list.
func (p *parser) typeParams() *part {
	p.need(api.TkLbrack)
	l := p.closedList(api.TkRbrack, p.typeParam)
	p.need(api.TkRbrack)
	return l
}

func (p *parser) typeParam() *part {
	from := p.at
	return p.part(api.NdTParam, from, p.list(p.name), p.union())
}

func (p *parser) union() *part {
	from := p.at
	l := []*part{p.term()}
	for p.got(api.TkOr) {
		l = append(l, p.term())
	}
	return p.part(api.NdUnion, from, l...)
}

func (p *parser) term() *part {
	from := p.at
	p.got(api.TkTilde)
	return p.part(api.NdTerm, from, p.typ())
}

// function parses a function or a method.
func (p *parser) function() *part {
	from := p.at
	p.next()
	receiver := p.empty()
	if p.is(api.TkLparen) {
		receiver = p.receiver()
	}
	name, params := p.name(), p.empty()
	if p.is(api.TkLbrack) && receiver.kind == api.NdEmpty {
		params = p.typeParams()
	}
	return p.part(api.NdFunc, from, receiver, name, params, p.signature(), p.block())
}

func (p *parser) receiver() *part {
	from := p.at
	p.next()
	name := p.empty()
	if p.is(api.TkName) && !p.followedBy(api.TkRparen) && !p.followedBy(api.TkLbrack) {
		name = p.name()
	}
	p.got(api.TkMul)
	t, params := p.name(), p.empty()
	if p.got(api.TkLbrack) {
		params = p.list(p.name)
		p.need(api.TkRbrack)
	}
	p.need(api.TkRparen)
	return p.part(api.NdRecv, from, name, t, params)
}

func (p *parser) signature() *part {
	from := p.at
	params, results := p.params(), p.empty()
	switch {
	case p.is(api.TkLparen):
		results = p.params()
	case beginsType(p.peek()):
		results = p.typ()
	}
	return p.part(api.NdSig, from, params, results)
}

func (p *parser) params() *part {
	from := p.at
	p.need(api.TkLparen)
	var l []*part
	if !p.is(api.TkRparen) {
		l = p.closedList(api.TkRparen, p.param).kids
	}
	p.need(api.TkRparen)
	return p.part(api.NdParams, from, l...)
}

func (p *parser) param() *part {
	from := p.at
	name := p.empty()
	if !p.is(api.TkName) || p.followedBy(api.TkPeriod) {
		p.got(api.TkEllipsis)
		return p.part(api.NdParam, from, name, p.typ())
	}
	first := p.name()
	switch {
	case p.is(api.TkLbrack):
		t, declares := p.bracketsBehind(first)
		if declares {
			name = first
		}
		return p.part(api.NdParam, from, name, t)
	case p.got(api.TkEllipsis), beginsType(p.peek()):
		return p.part(api.NdParam, from, first, p.typ())
	}
	return p.part(api.NdParam, from, name, first)
}

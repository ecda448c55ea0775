package parse

import "treemerge/api"

// file reads a file up to END, whose trivia is its gap.
func (p *parser) file() api.Node {
	n := api.Node{Kind: api.KdFile}
	for !p.atEnd() {
		p.kid(&n, (*parser).declaration)
	}
	n.Gaps = append(n.Gaps, p.next().Lead)
	return n
}

// declaration reads a declaration.
func (p *parser) declaration() api.Node {
	switch {
	case p.is("class"):
		return p.class()
	case p.is("const"):
		n := api.Node{Kind: api.KdConst}
		p.own(&n)
		p.assignment(&n)
		return n
	}
	return p.function()
}

// function reads a KdFunc.
func (p *parser) function() api.Node {
	n := api.Node{Kind: api.KdFunc}
	p.word(&n, "fn")
	p.name(&n)
	p.kid(&n, (*parser).params)
	p.kid(&n, (*parser).typ)
	p.kid(&n, (*parser).block)
	return n
}

// params reads a KdParams.
func (p *parser) params() api.Node {
	n := api.Node{Kind: api.KdParams}
	p.list(&n, (*parser).param)
	return n
}

// param reads a KdParam.
func (p *parser) param() api.Node {
	n := api.Node{Kind: api.KdParam}
	p.name(&n)
	p.kid(&n, (*parser).typ)
	return n
}

// typ reads a KdType.
func (p *parser) typ() api.Node {
	n := api.Node{Kind: api.KdType}
	p.name(&n)
	return n
}

// class reads a KdClass.
func (p *parser) class() api.Node {
	n := api.Node{Kind: api.KdClass}
	p.word(&n, "class")
	p.name(&n)
	p.kid(&n, (*parser).base)
	p.body(&n, (*parser).function)
	return n
}

// base reads a KdBase, which may be left out.
func (p *parser) base() api.Node {
	n := api.Node{Kind: api.KdBase}
	if p.is(":") {
		p.own(&n)
		p.name(&n)
	}
	return n
}

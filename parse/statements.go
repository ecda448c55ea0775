package parse

import "treemerge/api"

// statement reads a statement.
func (p *parser) statement() api.Node {
	n := api.Node{Kind: api.KdDo}
	switch {
	case p.is("if"):
		return p.branch()
	case p.is("while"):
		return p.loop()
	case p.is("let"):
		n.Kind = api.KdLet
		p.own(&n)
		p.assignment(&n)
	case p.is("return"):
		n.Kind = api.KdReturn
		p.own(&n)
		p.terminated(&n)
	case p.assigns():
		n.Kind = api.KdSet
		p.assignment(&n)
	default:
		p.terminated(&n)
	}
	return n
}

// assigns reports whether a name and the token = follow. A name is not END, so that there is a token behind it.
func (p *parser) assigns() bool {
	return p.atName() && p.tokens[p.at+1].Text == "="
}

// assignment reads the name of n, and the expression that is assigned to it.
func (p *parser) assignment(n *api.Node) {
	p.name(n)
	p.word(n, "=")
	p.terminated(n)
}

// terminated reads an expression as the next kid of n, and the semicolon behind it.
func (p *parser) terminated(n *api.Node) {
	p.kid(n, (*parser).expression)
	p.word(n, ";")
}

// branch reads a KdIf.
func (p *parser) branch() api.Node {
	n := api.Node{Kind: api.KdIf}
	p.word(&n, "if")
	p.kid(&n, (*parser).expression)
	p.kid(&n, (*parser).block)
	p.kid(&n, (*parser).otherwise)
	return n
}

// otherwise reads a KdElse, which may be left out.
func (p *parser) otherwise() api.Node {
	n := api.Node{Kind: api.KdElse}
	if p.is("else") {
		p.own(&n)
		p.kid(&n, (*parser).block)
	}
	return n
}

// loop reads a KdWhile.
func (p *parser) loop() api.Node {
	n := api.Node{Kind: api.KdWhile}
	p.word(&n, "while")
	p.kid(&n, (*parser).expression)
	p.kid(&n, (*parser).block)
	return n
}

// block reads a KdBlock.
func (p *parser) block() api.Node {
	n := api.Node{Kind: api.KdBlock}
	p.body(&n, (*parser).statement)
	return n
}

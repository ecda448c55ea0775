package parse

import (
	"treemerge/api"
	"treemerge/grammar"
)

// The levels of operators that the parser has to know; all others follow from grammar.Level.
const (
	lowest     = 1
	comparison = 3 // operators of this level cannot follow each other without parentheses
)

// expression reads an expression.
func (p *parser) expression() api.Node {
	return p.operation(lowest)
}

// operation reads an expression whose operators outside of parentheses have at least a level.
func (p *parser) operation(least int) api.Node {
	n := p.operand()
	most := grammar.Level(n)
	for {
		b := api.Node{Kind: api.KdBinary, Text: p.next().Text}
		level := grammar.Level(b)
		if level < least || level > most {
			return n
		}
		p.own(&b)
		b.Kids = []api.Node{n, p.operation(level + 1)}
		n, most = b, level
		if level == comparison {
			most--
		}
	}
}

// operand reads an expression without binary operators outside of parentheses.
func (p *parser) operand() api.Node {
	if p.is("-") || p.is("!") {
		n := api.Node{Kind: api.KdUnary}
		p.text(&n)
		p.kid(&n, (*parser).operand)
		return n
	}
	n := p.primary()
	for p.is(".") {
		n = p.send(n)
	}
	return n
}

// send reads a KdSend whose receiver has been read.
func (p *parser) send(receiver api.Node) api.Node {
	n := api.Node{Kind: api.KdSend, Kids: []api.Node{receiver}}
	p.word(&n, ".")
	p.name(&n)
	p.list(&n, (*parser).expression)
	return n
}

// primary reads an expression that has no operators and is no KdSend.
func (p *parser) primary() api.Node {
	var n api.Node
	switch {
	case p.next().Kind == api.TkInt:
		n.Kind = api.KdInt
		p.text(&n)
	case p.is("true") || p.is("false"):
		n.Kind = api.KdBool
		p.text(&n)
	case p.is("self"):
		n.Kind = api.KdSelf
		p.text(&n)
	case p.is("new"):
		return p.creation()
	case p.is("("):
		return p.parentheses()
	default:
		return p.nameOrCall()
	}
	return n
}

// creation reads a KdNew.
func (p *parser) creation() api.Node {
	n := api.Node{Kind: api.KdNew}
	p.word(&n, "new")
	p.name(&n)
	p.word(&n, "(")
	p.word(&n, ")")
	return n
}

// parentheses reads a KdParen.
func (p *parser) parentheses() api.Node {
	n := api.Node{Kind: api.KdParen}
	p.word(&n, "(")
	p.kid(&n, (*parser).expression)
	p.word(&n, ")")
	return n
}

// nameOrCall reads a KdCall if a parenthesis follows the name, and otherwise a KdName.
func (p *parser) nameOrCall() api.Node {
	n := api.Node{Kind: api.KdName}
	p.name(&n)
	if p.is("(") {
		n.Kind = api.KdCall
		p.list(&n, (*parser).expression)
	}
	return n
}

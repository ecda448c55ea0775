package parse

import (
	"treemerge/api"
	"treemerge/grammar"
)

// parser reads the tokens of a source. The last one is END, which is never passed.
type parser struct {
	tokens []api.Token
	at     int // the index of the token that is read next
}

// next returns the token that is read next.
func (p *parser) next() api.Token {
	return p.tokens[p.at]
}

// is reports whether the next token has the text, which is not empty.
func (p *parser) is(text string) bool {
	return p.next().Text == text
}

// atEnd reports whether no tokens but END are left.
func (p *parser) atEnd() bool {
	return p.next().Kind == api.TkEnd
}

// atName reports whether the next token is a name.
func (p *parser) atName() bool {
	return grammar.Check(api.Node{Kind: api.KdName, Text: p.next().Text}) == api.OK
}

// reject reports that the next token is the offending one.
func (p *parser) reject() {
	panic(p.next())
}

// own takes the next token as an own token of n.
func (p *parser) own(n *api.Node) {
	n.Gaps = append(n.Gaps, p.next().Lead)
	p.at++
}

// word takes the next token, which has to have the text, as an own token of n.
func (p *parser) word(n *api.Node, text string) {
	if !p.is(text) {
		p.reject()
	}
	p.own(n)
}

// text takes the next token as an own token of n that is its Text.
func (p *parser) text(n *api.Node) {
	n.Text = p.next().Text
	p.own(n)
}

// name takes the next token, which has to be a name, as an own token of n that is its Text.
func (p *parser) name(n *api.Node) {
	if !p.atName() {
		p.reject()
	}
	p.text(n)
}

// kid reads a part as the next kid of n.
func (p *parser) kid(n *api.Node, part func(*parser) api.Node) {
	n.Kids = append(n.Kids, part(p))
}

// list reads any number of parts, with commas between them and parentheses around them, as the next kids of n.
func (p *parser) list(n *api.Node, part func(*parser) api.Node) {
	p.word(n, "(")
	if !p.is(")") {
		p.kid(n, part)
		for p.is(",") {
			p.own(n)
			p.kid(n, part)
		}
	}
	p.word(n, ")")
}

// body reads parts up to the brace that closes them as the next kids of n.
func (p *parser) body(n *api.Node, part func(*parser) api.Node) {
	p.word(n, "{")
	for !p.is("}") {
		p.kid(n, part)
	}
	p.word(n, "}")
}

// alone reads a part that is the whole source. Trivia behind it would belong to no node.
func (p *parser) alone(part func(*parser) api.Node) api.Node {
	n := part(p)
	if !p.atEnd() || p.next().Lead != "" {
		p.reject()
	}
	return n
}

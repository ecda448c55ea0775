package print

import (
	"strings"

	"treemerge/api"
)

// word is an own token of a tree.
type word struct {
	node *api.Node
	own  int    // its index among the own tokens of the node
	gap  string // the canonical gap before it
	text string
}

// noKid is the index in a part that is an own token.
const noKid = -1

// part is an own token or a kid of a node, with the canonical gap before it.
type part struct {
	gap  string
	text string
	kid  int
}

// walk takes the step at each own token of a well-formed tree, in the order of the source.
func walk(n *api.Node, step func(word)) {
	walkNode(n, 0, "", step)
}

// walkNode is walk for a node at a level. The gap is the canonical one before the first token of the node: every node that has tokens begins with an own token, or with a kid that has tokens, so that its first part takes this gap.
func walkNode(n *api.Node, level int, gap string, step func(word)) {
	inside := level
	if n.Kind == api.KdBlock || n.Kind == api.KdClass {
		inside++
	}
	owns := 0
	for i, p := range parts(n, level) {
		if i > 0 {
			gap = p.gap
		}
		if p.kid == noKid {
			step(word{node: n, own: owns, gap: gap, text: p.text})
			owns++
		} else {
			walkNode(&n.Kids[p.kid], inside, gap, step)
		}
	}
}

// parts returns the parts of a well-formed node at a level, in the order of the source. The gap of the first one has no meaning: it is that of the node.
func parts(n *api.Node, level int) []part {
	switch n.Kind {
	case api.KdFile:
		return append(kids(n, 0, "\n\n"), own("\n", ""))
	case api.KdFunc:
		return []part{own("", "fn"), own(" ", n.Text), kid("", 0), kid(" ", 1), kid(" ", 2)}
	case api.KdParams:
		return list(n, 0)
	case api.KdParam:
		return []part{own("", n.Text), kid(" ", 0)}
	case api.KdBlock:
		return append([]part{own("", "{")}, body(n, 0, level)...)
	case api.KdClass:
		head := []part{own("", "class"), own(" ", n.Text), kid(" ", 0), own(" ", "{")}
		return append(head, body(n, 1, level)...)
	case api.KdBase:
		if n.Text == "" {
			return nil
		}
		return []part{own("", ":"), own(" ", n.Text)}
	case api.KdConst:
		return append([]part{own("", "const")}, assignment(n)...)
	}
	return statementParts(n)
}

// statementParts is parts for the statements and what they consist of.
func statementParts(n *api.Node) []part {
	switch n.Kind {
	case api.KdLet:
		return append([]part{own("", "let")}, assignment(n)...)
	case api.KdSet:
		return assignment(n)
	case api.KdReturn:
		return []part{own("", "return"), kid(" ", 0), own("", ";")}
	case api.KdIf:
		return append([]part{own("", "if")}, kids(n, 0, " ")...)
	case api.KdElse:
		if len(n.Kids) == 0 {
			return nil
		}
		return append([]part{own("", "else")}, kids(n, 0, " ")...)
	case api.KdWhile:
		return append([]part{own("", "while")}, kids(n, 0, " ")...)
	case api.KdDo:
		return []part{kid("", 0), own("", ";")}
	}
	return expressionParts(n)
}

// expressionParts is parts for the expressions and the types.
func expressionParts(n *api.Node) []part {
	switch n.Kind {
	case api.KdCall:
		return append([]part{own("", n.Text)}, list(n, 0)...)
	case api.KdSend:
		return append([]part{kid("", 0), own("", "."), own("", n.Text)}, list(n, 1)...)
	case api.KdNew:
		return append([]part{own("", "new"), own(" ", n.Text)}, list(n, 0)...)
	case api.KdBinary:
		return []part{kid("", 0), own(" ", n.Text), kid(" ", 1)}
	case api.KdUnary:
		return []part{own("", n.Text), kid("", 0)}
	case api.KdParen:
		return []part{own("", "("), kid("", 0), own("", ")")}
	}
	return []part{own("", n.Text)}
}

// own returns an own token.
func own(gap, text string) part {
	return part{gap: gap, text: text, kid: noKid}
}

// kid returns the kid with an index.
func kid(gap string, i int) part {
	return part{gap: gap, kid: i}
}

// kids returns the kids from the first one on, with equal gaps.
func kids(n *api.Node, first int, gap string) []part {
	var l []part
	for i := first; i < len(n.Kids); i++ {
		l = append(l, kid(gap, i))
	}
	return l
}

// list returns the kids from the first one on, with commas between them and parentheses around them.
func list(n *api.Node, first int) []part {
	l := []part{own("", "(")}
	for i := first; i < len(n.Kids); i++ {
		gap := ""
		if i > first {
			l = append(l, own("", ","))
			gap = " "
		}
		l = append(l, kid(gap, i))
	}
	return append(l, own("", ")"))
}

// body returns the kids from the first one on, each on a new line, and the brace that closes them.
func body(n *api.Node, first, level int) []part {
	l := kids(n, first, newLine(level+1))
	if len(l) == 0 {
		return []part{own("", "}")}
	}
	return append(l, own(newLine(level), "}"))
}

// assignment returns the name of a node, and the expression that is assigned to it.
func assignment(n *api.Node) []part {
	return []part{own(" ", n.Text), own(" ", "="), kid(" ", 0), own("", ";")}
}

// newLine returns a new line of a level.
func newLine(level int) string {
	return "\n" + strings.Repeat("\t", level)
}

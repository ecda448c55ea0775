package print_test

import (
	"strings"
	"testing"

	"treemerge/api"
	"treemerge/token"
	"treemerge/tree"
)

// table is the grammar of the document with the table of the chapter: for each kind its own tokens and its kids, in order. NAME is the Text, and a number is a kid; 1* are all kids from this one on, and 1,* have commas between them. The name of the canonical gap stands before ~ and is explained in gapOf; without one it is empty, or that of the node itself.
var table = [api.Kinds]string{
	api.KdFile:   "lines~0* feed~END",
	api.KdFunc:   "fn space~NAME 0 space~1 space~2",
	api.KdParams: "( 0,* )",
	api.KdParam:  "NAME space~0",
	api.KdType:   "NAME",
	api.KdBlock:  "{ inner~0* outer~}",
	api.KdClass:  "class space~NAME space~0 space~{ inner~1* outer~}",
	api.KdBase:   ": space~NAME",
	api.KdConst:  "const space~NAME space~= space~0 ;",
	api.KdLet:    "let space~NAME space~= space~0 ;",
	api.KdSet:    "NAME space~= space~0 ;",
	api.KdReturn: "return space~0 ;",
	api.KdIf:     "if space~0 space~1 space~2",
	api.KdElse:   "else space~0",
	api.KdWhile:  "while space~0 space~1",
	api.KdDo:     "0 ;",
	api.KdInt:    "NAME",
	api.KdBool:   "NAME",
	api.KdName:   "NAME",
	api.KdCall:   "NAME ( 0,* )",
	api.KdSend:   "0 . NAME ( 1,* )",
	api.KdNew:    "new space~NAME ( )",
	api.KdSelf:   "NAME",
	api.KdBinary: "0 space~NAME space~1",
	api.KdUnary:  "NAME 0",
	api.KdParen:  "( 0 )",
}

// gapOf returns the canonical gap with this name in the node n of the level L.
func gapOf(name string, n api.Node, L int) string {
	switch name {
	case "space":
		return " "
	case "feed":
		return "\n"
	case "lines":
		return "\n\n"
	case "inner":
		return "\n" + strings.Repeat("\t", L+1)
	case "outer":
		if n.Kind == api.KdBlock && len(n.Kids) > 0 || n.Kind == api.KdClass && len(n.Kids) > 1 {
			return "\n" + strings.Repeat("\t", L)
		}
	}
	return ""
}

// word is an own token of a tree: the index of its node, its place among the own tokens of the node, its text and its canonical gap.
type word struct {
	node, own int
	text, gap string
}

// model lists the own tokens of a tree by the table; it counts the nodes.
type model struct {
	nodes int
}

// modelWords returns the own tokens of a well-formed tree.
func modelWords(n api.Node) []word {
	var m model
	l := m.words(n, 0)
	if len(l) > 0 {
		l[0].gap = "" // the first token of the whole tree
	}
	return l
}

// words returns the own tokens of a node of the level L. The first token of a kid gets its gap from the node that is furthest outside.
func (m *model) words(n api.Node, L int) []word {
	node, own := m.nodes, 0
	m.nodes++
	if n.Kind == api.KdBase && n.Text == "" || n.Kind == api.KdElse && len(n.Kids) == 0 {
		return nil
	}
	var l []word
	add := func(gap, text string) {
		l = append(l, word{node: node, own: own, text: text, gap: gapOf(gap, n, L)})
		own++
	}
	for _, field := range strings.Fields(table[n.Kind]) {
		gap, part, found := strings.Cut(field, "~")
		if !found {
			gap, part = "", field
		}
		switch {
		case part == "NAME":
			add(gap, n.Text)
		case part == "END":
			add(gap, "")
		case part[0] < '0' || part[0] > '9':
			add(gap, part)
		default:
			from, to := kidsOf(n, part)
			for k := from; k < to; k++ {
				if k > from && strings.Contains(part, ",") {
					add("", ",")
					gap = "space"
				}
				l = append(l, m.kid(n, k, gap, L)...)
			}
		}
	}
	return l
}

// kidsOf returns the indices of the first kid that the part of the table names, and of the one after the last.
func kidsOf(n api.Node, part string) (int, int) {
	from := int(part[0] - '0')
	if strings.HasSuffix(part, "*") {
		return from, len(n.Kids)
	}
	return from, from + 1
}

// kid returns the own tokens of a kid, the first of which has the gap with this name.
func (m *model) kid(n api.Node, k int, gap string, L int) []word {
	inside := L
	if n.Kind == api.KdBlock || n.Kind == api.KdClass {
		inside++
	}
	l := m.words(n.Kids[k], inside)
	if len(l) > 0 {
		l[0].gap = gapOf(gap, n, L)
	}
	return l
}

// modelTexts returns the texts of the own tokens.
func modelTexts(n api.Node) []string {
	var l []string
	for _, w := range modelWords(n) {
		l = append(l, w.text)
	}
	return l
}

// modelSource returns the source by the definition of Text.
func modelSource(n api.Node) string {
	rows := tree.Rows(n)
	var b strings.Builder
	last := ""
	for _, w := range modelWords(n) {
		gap := w.gap
		if gaps := rows[w.node].Gaps; len(gaps) > 0 {
			gap = gaps[w.own]
		}
		if gap == "" && token.Glue(last, w.text) || strings.HasPrefix(gap, "/") && last == "/" {
			b.WriteString(" ")
		}
		b.WriteString(gap + w.text)
		last = w.text
	}
	return b.String()
}

// modelLayout returns the tree with the canonical gaps.
func modelLayout(t *testing.T, n api.Node) api.Node {
	rows := tree.Rows(tree.Bare(n))
	for _, w := range modelWords(n) {
		if len(rows[w.node].Gaps) != w.own {
			t.Fatalf("the own tokens of the node %d of %v are not in order", w.node, n)
		}
		rows[w.node].Gaps = append(rows[w.node].Gaps, w.gap)
	}
	l, e := tree.Build(rows)
	if e != api.OK {
		t.Fatalf("Build = %d", e)
	}
	return l
}

package parse_test

import (
	"math/rand"
	"slices"
	"strconv"
	"strings"
	"testing"

	"treemerge/api"
	"treemerge/grammar"
	"treemerge/token"
	"treemerge/tree"
)

// grower derives sources, and the trees that the document describes for them, from the rules.
type grower struct {
	*rand.Rand
	model
	heights map[string]int // the least number of levels of each symbol
	gaps    []string
	last    string // the token that was written last
	source  strings.Builder
}

func newGrower(seed int64) *grower {
	g := &grower{Rand: rand.New(rand.NewSource(seed)), model: newModel(), heights: map[string]int{}}
	for changed := true; changed; {
		changed = false
		for _, r := range g.rules {
			h, known := g.height(r)
			if old, found := g.heights[r.symbol]; known && (!found || h < old) {
				g.heights[r.symbol], changed = h, true
			}
		}
	}
	return g
}

// height returns the least number of levels of a rule, if that of its parts is known.
func (g *grower) height(r rule) (int, bool) {
	h := 0
	for _, part := range r.parts {
		below, found := g.heights[part]
		if g.of[part] != nil && !found {
			return 0, false
		}
		h = max(h, below)
	}
	if r.kind != 0 {
		h++
	}
	return h, true
}

// choose returns a rule of the symbol: of those that fit in the levels, or, if there is none, of the flattest ones.
func (g *grower) choose(symbol string, levels int) rule {
	levels = max(levels, g.heights[symbol])
	var l []rule
	for _, i := range g.of[symbol] {
		r := g.rules[i]
		if h, _ := g.height(r); h > levels {
			continue
		}
		l = append(l, r)
		if r.kind != api.KdBinary && r.kind != api.KdUnary {
			l = append(l, r, r) // otherwise there would be hardly anything but operators
		}
	}
	return l[g.Intn(len(l))]
}

// grow writes a part, and adds its tokens and trees to n.
func (g *grower) grow(n *api.Node, part string, levels int) {
	if g.of[part] == nil {
		g.write(n, part)
		return
	}
	r := g.choose(part, levels)
	at := n
	if r.kind != 0 {
		levels--
		at = &api.Node{Kind: r.kind}
	}
	for _, p := range r.parts {
		g.grow(at, p, levels)
	}
	if r.kind != 0 {
		n.Kids = append(n.Kids, *at)
	}
}

// write writes a token and a gap that keeps it apart from the last one.
func (g *grower) write(n *api.Node, part string) {
	text := part
	switch part {
	case "NAME":
		text = []string{"a", "b2", "_", "x_y", "Abc", "int", "bool", "fnx", "NAME", strings.Repeat("z", api.MaxName)}[g.Intn(10)]
	case "INT":
		text = []string{"0", "1", "23", "1000000000000"}[g.Intn(4)]
	case "END":
		text = ""
		if n.Kind != api.KdFile {
			return
		}
	}
	gap := g.gaps[g.Intn(len(g.gaps))]
	if gap == "" && token.Glue(g.last, text) || strings.HasPrefix(gap, "/") && g.last == "/" {
		gap = " " + gap
	}
	switch n.Kind {
	case api.KdBool, api.KdSelf, api.KdBinary, api.KdUnary:
		n.Text = text
	default:
		if part == "NAME" || part == "INT" {
			n.Text = text
		}
	}
	n.Gaps = append(n.Gaps, gap)
	g.source.WriteString(gap + text)
	g.last = text
}

// anyGaps are gaps of all sorts; the empty one, and one that begins with /, are frequent.
func anyGaps() []string {
	return []string{"", "", "", " ", "\t", "\n\n", "// c\n", "//\n\t//d\n", " // é \xff ( 01\n  "}
}

// program is a source of a form with its tree.
type program struct {
	form
	source string
	tree   api.Node
}

// program returns a source of the form and its tree. Its symbol stands for the trees of the form.
func (g *grower) program(f form, levels int) program {
	g.gaps = [][]string{{""}, {" "}, anyGaps(), anyGaps()}[g.Intn(4)]
	g.last = ""
	g.source.Reset()
	var root api.Node
	g.grow(&root, f.symbol, levels)
	return program{f, g.source.String(), root.Kids[0]}
}

// programs returns k sources of all forms, with their trees.
func programs(t *testing.T, seed int64, k int) []program {
	t.Helper()
	g := newGrower(seed)
	seen := make([]int, api.Kinds)
	var l []program
	for len(l) < k {
		x := g.program(forms()[len(l)%3], 1+g.Intn(9))
		if grammar.Check(x.tree) == api.ErrLimit {
			continue
		}
		for _, r := range tree.Rows(x.tree) {
			seen[r.Kind]++
		}
		l = append(l, x)
	}
	if least := slices.Min(seen[1:]); least < k/20 {
		t.Fatalf("of %d sources, there are only %d nodes of a kind", k, least)
	}
	return l
}

// kindNames are the names of the kinds in the lists of show.
var kindNames = [api.Kinds]string{"", "file", "fn", "params", "param", "type", "block", "class", "base", "const", "let", "set", "return", "if", "else", "while", "do", "int", "bool", "name", "call", "send", "new", "self", "binary", "unary", "paren"}

// show writes a tree without its gaps: name a is a node of the kind KdName with the Text a, and the kids follow in parentheses.
func show(n api.Node) string {
	s := kindNames[n.Kind]
	if n.Text != "" {
		s += " " + n.Text
	}
	if len(n.Kids) == 0 {
		return s
	}
	var l []string
	for _, kid := range n.Kids {
		l = append(l, show(kid))
	}
	return s + "(" + strings.Join(l, ", ") + ")"
}

// showGaps writes the gaps of the nodes in preorder, those of each node in brackets.
func showGaps(n api.Node) string {
	var l []string
	for _, r := range tree.Rows(n) {
		l = append(l, "["+strings.Join(r.Gaps, "|")+"]")
	}
	return strings.Join(l, "")
}

// isZero reports whether a tree is the zero value.
func isZero(n api.Node) bool {
	return n.Kind == 0 && n.Text == "" && len(n.Gaps) == 0 && len(n.Kids) == 0
}

// wantTree checks that a function returns the tree, with its gaps.
func wantTree(t *testing.T, f form, s string, want api.Node) {
	t.Helper()
	if n, e, at := f.read(s); e != api.OK || at != 0 || !tree.Equal(n, want) {
		t.Fatalf("%s(%s) = %s %q, %d, %d; want %s %q", f.symbol, short(s), show(n), showGaps(n), e, at, show(want), showGaps(want))
	}
}

// wantShape checks that a function returns a tree that show writes so.
func wantShape(t *testing.T, f form, s, want string) {
	t.Helper()
	if n, e, at := f.read(s); e != api.OK || at != 0 || show(n) != want {
		t.Errorf("%s(%s) = %s, %d, %d; want %s", f.symbol, short(s), show(n), e, at, want)
	}
}

// wantError checks that a function returns the error and the offset, and a zero tree.
func wantError(t *testing.T, f form, s string, want api.Errno, offset int) {
	t.Helper()
	if n, e, at := f.read(s); e != want || at != offset || !isZero(n) {
		t.Errorf("%s(%s) = %s, %d, %d; want the error %d and the offset %d", f.symbol, short(s), show(n), e, at, want, offset)
	}
}

// short quotes a source, of which the middle is left out if it is long.
func short(s string) string {
	if len(s) > 400 {
		return strconv.Quote(s[:200]) + " .. " + strconv.Quote(s[len(s)-200:])
	}
	return strconv.Quote(s)
}

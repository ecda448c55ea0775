package grammar_test

import (
	"math"
	"math/big"
	"math/rand"
	"regexp"
	"slices"
	"strings"
	"testing"

	"treemerge/api"
	"treemerge/grammar"
	"treemerge/tree"
)

// entry is a row of the table of the chapter. A star stands for any number of kids, a question mark for one or none.
type entry struct {
	kind string
	text string // "name", "name?", "integer", or the permitted words
	kids string
	own  int // without the commas; of a KdBase with a Text, and of a KdElse with a kid
}

// table is the table of the chapter, by the numbers of the kinds.
var table = [api.Kinds]entry{
	{},
	{"KdFile", "", "declaration*", 1},
	{"KdFunc", "name", "KdParams KdType KdBlock", 2},
	{"KdParams", "", "KdParam*", 2},
	{"KdParam", "name", "KdType", 1},
	{"KdType", "name", "", 1},
	{"KdBlock", "", "statement*", 2},
	{"KdClass", "name", "KdBase KdFunc*", 4},
	{"KdBase", "name?", "", 2},
	{"KdConst", "name", "expression", 4},
	{"KdLet", "name", "expression", 4},
	{"KdSet", "name", "expression", 3},
	{"KdReturn", "", "expression", 2},
	{"KdIf", "", "expression KdBlock KdElse", 1},
	{"KdElse", "", "KdBlock?", 1},
	{"KdWhile", "", "expression KdBlock", 1},
	{"KdDo", "", "expression", 1},
	{"KdInt", "integer", "", 1},
	{"KdBool", "true false", "", 1},
	{"KdName", "name", "", 1},
	{"KdCall", "name", "expression*", 3},
	{"KdSend", "name", "expression expression*", 4},
	{"KdNew", "name", "", 4},
	{"KdSelf", "self", "", 1},
	{"KdBinary", "+ | & == < - * /", "expression expression", 1},
	{"KdUnary", "- !", "expression", 1},
	{"KdParen", "", "expression", 2},
}

// groups are the groups of the chapter, by their numbers.
var groups = []string{"",
	"KdFunc KdClass KdConst",
	"KdLet KdSet KdReturn KdIf KdWhile KdDo",
	"KdInt KdBool KdName KdCall KdSend KdNew KdSelf KdBinary KdUnary KdParen",
}

// strange are numbers that are no kinds.
var strange = []int{math.MinInt, math.MinInt + 1, -27, -26, -1, 0, 27, 28, 53, 256, 257, 1 << 32, 1<<32 + 1, math.MaxInt}

// kindsOf returns the kinds with these names.
func kindsOf(names string) []int {
	var l []int
	for _, s := range strings.Fields(names) {
		l = append(l, slices.IndexFunc(table[:], func(e entry) bool { return e.kind == s }))
	}
	return l
}

// place is a part of the kids of a kind: the kinds that it permits, and how many kids it has.
type place struct {
	kinds       []int
	least, most int
}

// places contains the parts of the kids of each kind.
var places = readPlaces()

func readPlaces() [api.Kinds][]place {
	var all [api.Kinds][]place
	for kind, e := range table {
		for _, s := range strings.Fields(e.kids) {
			p := place{least: 1, most: 1}
			if strings.HasSuffix(s, "?") {
				p = place{most: 1}
			} else if strings.HasSuffix(s, "*") {
				p = place{most: math.MaxInt}
			}
			s = strings.TrimRight(s, "?*")
			group := slices.Index([]string{"", "declaration", "statement", "expression"}, s)
			if group > 0 {
				s = groups[group]
			}
			p.kinds = kindsOf(s)
			all[kind] = append(all[kind], p)
		}
	}
	return all
}

// fits reports whether the table permits the kid at the position.
func fits(parent, pos, kid int) bool {
	if pos < 0 || parent < 1 || parent >= api.Kinds {
		return false
	}
	l := places[parent]
	if last := len(l) - 1; last >= 0 && pos > last && l[last].most > 1 {
		pos = last
	}
	return pos < len(l) && slices.Contains(l[pos].kinds, kid)
}

// enough reports whether a node of the kind needs no more kids than this.
func enough(kind, kids int) bool {
	for _, p := range places[kind] {
		kids -= p.least
	}
	return kids >= 0
}

// The texts of the chapter.
var (
	nameText    = regexp.MustCompile(`\A[A-Za-z_][A-Za-z0-9_]{0,31}\z`)
	keywordText = regexp.MustCompile(`\A(fn|class|const|let|return|if|else|while|new|self|true|false)\z`)
	integerText = regexp.MustCompile(`\A(0|[1-9][0-9]*)\z`)
	triviaText  = regexp.MustCompile(`\A([ \t\n]|//[^\n]*\n)*\z`)
)

// textError returns the error of the text of a node of the kind.
func textError(kind int, text string) api.Errno {
	switch permitted := table[kind].text; permitted {
	case "name", "name?":
		if nameText.MatchString(text) && !keywordText.MatchString(text) || text == "" && permitted == "name?" {
			return api.OK
		}
		return api.ErrName
	case "integer":
		value, _ := new(big.Int).SetString(text, 10)
		if integerText.MatchString(text) && value.Cmp(big.NewInt(1000000000000)) <= 0 {
			return api.OK
		}
		return api.ErrName
	default:
		if text == "" && permitted == "" || slices.Contains(strings.Fields(permitted), text) {
			return api.OK
		}
		return api.ErrKind
	}
}

// ownOf returns the number of own tokens by the table.
func ownOf(n api.Node) int {
	if n.Kind < 1 || n.Kind >= api.Kinds || n.Kind == api.KdBase && n.Text == "" || n.Kind == api.KdElse && len(n.Kids) == 0 {
		return 0
	}
	commas := 0
	switch n.Kind {
	case api.KdParams, api.KdCall:
		commas = len(n.Kids) - 1
	case api.KdSend:
		commas = len(n.Kids) - 2
	}
	return table[n.Kind].own + max(0, commas)
}

// levelOf returns the level of an expression by the list of the chapter.
func levelOf(n api.Node) int {
	switch {
	case n.Kind == api.KdBinary:
		return map[string]int{"|": 1, "&": 2, "==": 3, "<": 3, "+": 4, "-": 4, "*": 5, "/": 5}[n.Text]
	case n.Kind == api.KdUnary:
		return 6
	case slices.Contains(kindsOf(groups[3]), n.Kind):
		return 7
	}
	return 0
}

// rightLevels reports whether the operands or the receiver of a node have the levels that it needs.
func rightLevels(n api.Node) bool {
	switch n.Kind {
	case api.KdBinary:
		own, left, right := levelOf(n), levelOf(n.Kids[0]), levelOf(n.Kids[1])
		return right > own && (left > own || left == own && own != 3)
	case api.KdUnary:
		return levelOf(n.Kids[0]) > 5
	case api.KdSend:
		return levelOf(n.Kids[0]) > 6
	}
	return true
}

// nodeError returns the error of a node alone, in the order of the chapter.
func nodeError(n api.Node) api.Errno {
	if n.Kind < 1 || n.Kind >= api.Kinds || !enough(n.Kind, len(n.Kids)) {
		return api.ErrKind
	}
	for pos, kid := range n.Kids {
		if !fits(n.Kind, pos, kid.Kind) {
			return api.ErrKind
		}
	}
	wrong := textError(n.Kind, n.Text)
	if wrong == api.ErrKind || !rightLevels(n) {
		return api.ErrKind
	}
	if wrong != api.OK {
		return wrong
	}
	notTrivia := func(s string) bool { return !triviaText.MatchString(s) }
	if len(n.Gaps) > 0 && (len(n.Gaps) != ownOf(n) || slices.ContainsFunc(n.Gaps, notTrivia)) {
		return api.ErrKind
	}
	return api.OK
}

// firstError returns the error of the node with the least index that has one. The tree exceeds no limit.
func firstError(n api.Node) api.Errno {
	for i := range tree.Size(n) {
		at, _ := tree.At(n, i)
		if e := nodeError(at); e != api.OK {
			return e
		}
	}
	return api.OK
}

func node(kind int, text string, kids ...api.Node) api.Node {
	return api.Node{Kind: kind, Text: text, Kids: kids}
}

func withGaps(n api.Node, gaps ...string) api.Node {
	n.Gaps = gaps
	return n
}

func number(text string) api.Node { return node(api.KdInt, text) }

// many returns k times the tree.
func many(n api.Node, k int) []api.Node { return slices.Repeat([]api.Node{n}, k) }

// sample returns a small well-formed tree of the kind.
func sample(kind int) api.Node {
	n := node(kind, firstText(table[kind].text))
	for _, p := range places[kind] {
		n.Kids = append(n.Kids, many(sample(p.kinds[0]), p.least)...)
	}
	return n
}

// firstText returns one of the permitted texts.
func firstText(permitted string) string {
	switch permitted {
	case "name":
		return "a"
	case "name?", "":
		return ""
	case "integer":
		return "1"
	}
	return strings.Fields(permitted)[0]
}

// grower makes well-formed trees.
type grower struct {
	*rand.Rand
	spaced bool
}

// tree returns a well-formed tree of the kind, of a few levels.
func (g grower) tree(kind, levels int) api.Node {
	n := node(kind, g.text(kind))
	for _, p := range places[kind] {
		k := p.least
		if levels > 0 {
			k += g.Intn(min(3, p.most-p.least) + 1)
		}
		for range k {
			n.Kids = append(n.Kids, g.kid(p.kinds, levels-1))
		}
	}
	for pos := 0; !rightLevels(n); pos++ {
		n.Kids[pos] = node(api.KdParen, "", n.Kids[pos])
	}
	if g.spaced {
		n.Gaps = slices.Repeat([]string{[]string{"", " ", "// c\n"}[g.Intn(3)]}, ownOf(n))
	}
	return n
}

// kid returns a tree of one of the kinds; the first one ends the growth of expressions.
func (g grower) kid(kinds []int, levels int) api.Node {
	kind := kinds[0]
	if levels > 0 {
		kind = kinds[g.Intn(len(kinds))]
	}
	return g.tree(kind, levels)
}

// text returns a permitted text.
func (g grower) text(kind int) string {
	l := strings.Fields(table[kind].text)
	switch table[kind].text {
	case "name":
		l = []string{"a", "f1", "_"}
	case "name?":
		l = []string{"", "B"}
	case "integer":
		l = []string{"0", "12", "1000000000000"}
	case "":
		return ""
	}
	return l[g.Intn(len(l))]
}

// programs returns well-formed trees of all kinds, half of them files; about half of them have gaps.
func programs(t *testing.T, k int) []api.Node {
	g := grower{Rand: rand.New(rand.NewSource(7))}
	var kinds []int
	for kind := 1; kind < api.Kinds; kind++ {
		kinds = append(kinds, kind, api.KdFile)
	}
	var l []api.Node
	for i := range k {
		g.spaced = g.Intn(2) == 0
		n := g.tree(kinds[i%len(kinds)], g.Intn(9))
		if e := grammar.Check(n); e != api.OK {
			t.Fatalf("Check of a well-formed tree %v = %d", n, e)
		}
		l = append(l, n)
	}
	return l
}

package print_test

import (
	"reflect"
	"slices"
	"strings"
	"testing"

	"treemerge/api"
	"treemerge/grammar"
	"treemerge/print"
	"treemerge/tree"
)

// results are those of all functions for a tree.
type results struct {
	words             []string
	text, plain       string
	layout            api.Node
	ofWords, ofText   api.Errno
	ofPlain, ofLayout api.Errno
}

func resultsOf(n api.Node) results {
	var r results
	r.words, r.ofWords = print.Words(n)
	r.text, r.ofText = print.Text(n)
	r.plain, r.ofPlain = print.Plain(n)
	r.layout, r.ofLayout = print.Layout(n)
	return r
}

// wantError checks that all functions return the error, and zero values with it.
func wantError(t *testing.T, name string, n api.Node, want api.Errno) {
	t.Helper()
	if e := grammar.Check(n); e != want {
		t.Fatalf("%s: Check = %d, want %d", name, e, want)
	}
	r := resultsOf(n)
	if r.ofWords != want || r.ofText != want || r.ofPlain != want || r.ofLayout != want {
		t.Errorf("%s: Words, Text, Plain and Layout return %d, %d, %d and %d, want %d", name, r.ofWords, r.ofText, r.ofPlain, r.ofLayout, want)
	}
	if len(r.words) != 0 || r.text != "" || r.plain != "" || r.layout.Kind != 0 || r.layout.Text != "" || len(r.layout.Gaps) != 0 || len(r.layout.Kids) != 0 {
		t.Errorf("%s: the results are not zero: %v", name, r)
	}
}

// minuses returns an expression of k levels.
func minuses(k int) api.Node {
	n := number(1)
	for range k - 1 {
		n = unary("-", n)
	}
	return n
}

// P8.1, P8.2, P8.3: the errors of grammar.Check.
func TestErrors(t *testing.T) {
	a := variable("a")
	many := func(n api.Node, k int) []api.Node { return slices.Repeat([]api.Node{n}, k) }
	wide := block(many(do(minuses(19)), 200)...)
	for name, n := range map[string]api.Node{
		"levels":     minuses(61),
		"far more":   minuses(1 << 16),
		"nodes":      wide,
		"kids":       block(many(ret(a), 201)...),
		"parameters": params(many(param("a", "int"), 17)...),
		"arguments":  call("f", many(a, 17)...),
		"sent":       send(a, "m", many(a, 17)...),
		"and wrong":  node(0, "", minuses(61)),
		"gaps, too":  withGaps(minuses(61), "x"),
	} {
		wantError(t, name, n, api.ErrLimit)
	}
	for name, n := range map[string]api.Node{
		"zero":       {},
		"negative":   node(-1, ""),
		"beyond":     node(api.Kinds, "a"),
		"within":     paren(node(api.Kinds, "a")),
		"few kids":   node(api.KdFunc, "f", params(), typ("int")),
		"no kids":    node(api.KdClass, "A"),
		"more kids":  node(api.KdNew, "A", a),
		"other kid":  file(ret(a)),
		"order":      node(api.KdIf, "", block(), a, orElse()),
		"text":       node(api.KdParen, "a", a),
		"bool":       node(api.KdBool, "yes"),
		"self":       node(api.KdSelf, ""),
		"operator":   binary("?", a, a),
		"level":      binary("*", binary("+", a, a), a),
		"right":      binary("-", a, binary("-", a, a)),
		"compared":   binary("<", binary("<", a, a), a),
		"unary":      unary("-", binary("*", a, a)),
		"receiver":   send(unary("-", a), "m"),
		"first kind": call("f", node(api.KdBool, "yes"), node(api.KdInt, "x")),
	} {
		wantError(t, name, n, api.ErrKind)
	}
	for name, n := range map[string]api.Node{
		"empty":      variable(""),
		"keyword":    variable("fn"),
		"long":       variable(strings.Repeat("a", 33)),
		"digit":      call("1"),
		"integer":    node(api.KdInt, "007"),
		"great":      node(api.KdInt, "1000000000001"),
		"base":       class("A", base("1")),
		"deep":       file(function("f", params(), "int", block(ret(node(api.KdInt, ""))))),
		"first name": call("f", node(api.KdInt, "x"), node(api.KdBool, "yes")),
		"and gaps":   withGaps(variable("1"), "x"),
	} {
		wantError(t, name, n, api.ErrName)
	}
}

// P8.2: trees whose gaps alone are wrong are no trees for Plain, either.
func TestWrongGaps(t *testing.T) {
	a := variable("a")
	for name, n := range map[string]api.Node{
		"no trivia":  withGaps(a, "x"),
		"incomplete": withGaps(a, "// c"),
		"slash":      withGaps(a, "/"),
		"more":       withGaps(a, "", ""),
		"fewer":      withGaps(paren(a), ""),
		"no tokens":  withGaps(base(""), ""),
		"no else":    branch(a, block(), withGaps(orElse(), "")),
		"commas":     withGaps(call("f", a, a), "", "", ""),
		"the last":   withGaps(file(constant("c", number(1))), "c"),
		"deep":       file(function("f", params(), "int", block(ret(withGaps(a, "\r"))))),
	} {
		if e := grammar.Check(tree.Bare(n)); e != api.OK {
			t.Fatalf("%s: Check without gaps = %d", name, e)
		}
		wantError(t, name, n, api.ErrKind)
	}
}

// P8.2: the errors of Check come before that of a long source.
func TestErrorBeforeLimit(t *testing.T) {
	long := withGaps(variable("a"), strings.Repeat(" ", api.MaxText+1))
	wantError(t, "a name", call("f", long, variable("1")), api.ErrName)
	wantError(t, "a kind", call("f", long, node(0, "")), api.ErrKind)
	wantError(t, "a gap", call("f", long, withGaps(variable("b"), "b")), api.ErrKind)
	wide := sized(api.MaxText + 1)
	wide.Kids = append(wide.Kids, do(variable("1")))
	wantError(t, "a name in a wide tree", wide, api.ErrName)
	wide.Kids[len(wide.Kids)-1] = ret(withGaps(variable("a"), "a"))
	wantError(t, "a gap in a wide tree", wide, api.ErrKind)
}

// sized returns a block without gaps whose source in the canonical layout has this many bytes; it has to be long.
func sized(size int) api.Node {
	var l []api.Node
	for range 130 {
		var args []api.Node
		for range 16 {
			args = append(args, variable(strings.Repeat("x", 32)))
		}
		l = append(l, do(call("f", args...)))
	}
	n := block(l...)
	excess := len(modelSource(n)) - size
	for i := range l {
		args := l[i].Kids[0].Kids
		for k := range args {
			cut := min(excess, len(args[k].Text)-1)
			args[k].Text = args[k].Text[cut:]
			excess -= cut
		}
	}
	return n
}

// P8.2: sources of exactly MaxText bytes, and of one more, in the canonical layout. Neither Words nor Layout has this limit.
func TestPlainLimit(t *testing.T) {
	for _, size := range []int{api.MaxText - 1, api.MaxText, api.MaxText + 1, api.MaxText + 1000} {
		n := sized(size)
		if e := grammar.Check(n); e != api.OK || len(modelSource(n)) != size {
			t.Fatalf("Check of a tree of %d bytes = %d, its source has %d", size, e, len(modelSource(n)))
		}
		r := resultsOf(n)
		if r.ofWords != api.OK || r.ofLayout != api.OK || !slices.Equal(r.words, modelTexts(n)) || !tree.Equal(r.layout, modelLayout(t, n)) {
			t.Errorf("Words and Layout of a tree of %d bytes return %d and %d", size, r.ofWords, r.ofLayout)
		}
		want, text := api.OK, modelSource(n)
		if size > api.MaxText {
			want, text = api.ErrLimit, ""
		}
		if r.ofPlain != want || r.plain != text || r.ofText != want || r.text != text {
			t.Errorf("Plain and Text of %d bytes return %d bytes, %d, and %d bytes, %d", size, len(r.plain), r.ofPlain, len(r.text), r.ofText)
		}
	}
}

// P8.2: the gaps do not matter for the size of Plain, and those of the tree for the size of Text.
func TestPlainLimitWithGaps(t *testing.T) {
	n := tight(sized(api.MaxText + 1))
	if s, e := print.Plain(n); s != "" || e != api.ErrLimit {
		t.Errorf("Plain of a tight tree = %d bytes, %d", len(s), e)
	}
	if s, e := print.Text(n); s != modelSource(n) || len(s) >= api.MaxText || e != api.OK {
		t.Errorf("Text of a tight tree = %d bytes, %d", len(s), e)
	}
	n = sized(api.MaxText)
	n.Gaps = []string{"", strings.Repeat("\n", api.MaxText)}
	if s, e := print.Plain(n); len(s) != api.MaxText || e != api.OK {
		t.Errorf("Plain of a loose tree = %d bytes, %d", len(s), e)
	}
	if s, e := print.Text(n); s != "" || e != api.ErrLimit {
		t.Errorf("Text of a loose tree = %d bytes, %d", len(s), e)
	}
}

// P8.2: sources of exactly MaxText bytes, and of one more, by a gap at any place; the spaces that are added count, too.
func TestTextLimit(t *testing.T) {
	a := variable("a")
	for name, long := range map[string]func(gap string) api.Node{
		"the first gap":    func(s string) api.Node { return withGaps(a, s) },
		"the end":          func(s string) api.Node { return withGaps(file(constant("c", number(1))), s) },
		"an empty file":    func(s string) api.Node { return withGaps(file(), s) },
		"within":           func(s string) api.Node { return withGaps(create("A"), "", " ", s, "") },
		"before the end":   func(s string) api.Node { return paren(withGaps(a, s)) },
		"before words":     func(s string) api.Node { return call("f", withGaps(a, s), variable("abc"), variable("abc")) },
		"behind /":         func(s string) api.Node { return binary("/", a, withGaps(a, "//"+strings.Replace(s, " ", "\n", 1))) },
		"before a space":   func(s string) api.Node { return withGaps(ret(withGaps(a, "")), s, "") },
		"before a comment": func(s string) api.Node { return binary("/", withGaps(a, s), withGaps(a, "//\n")) },
	} {
		rest := len(modelSource(long(" "))) - 1
		for size := api.MaxText - 2; size <= api.MaxText+3; size++ {
			n := long(strings.Repeat(" ", size-rest))
			want, text := api.OK, modelSource(n)
			if len(text) != size {
				t.Fatalf("%s: the source has %d bytes, want %d", name, len(text), size)
			}
			if size > api.MaxText {
				want, text = api.ErrLimit, ""
			}
			if s, e := print.Text(n); s != text || e != want {
				t.Errorf("%s: Text of %d bytes = %d bytes, %d", name, size, len(s), e)
			}
			if s, e := print.Plain(n); s != modelSource(tree.Bare(n)) || e != api.OK {
				t.Errorf("%s: Plain = %q, %d", name, s, e)
			}
		}
	}
	far := strings.Repeat("\n", 20*api.MaxText)
	n := withGaps(call("f", withGaps(a, far), a, withGaps(a, far)), far, "", far, "", "")
	if s, e := print.Text(n); s != "" || e != api.ErrLimit {
		t.Errorf("Text far beyond the limit = %d bytes, %d", len(s), e)
	}
}

// The greatest trees that are well-formed: of the greatest depth, and with the greatest numbers of kids.
func TestGreatTrees(t *testing.T) {
	deep := block()
	for range (api.MaxDepth - 1) / 2 {
		deep = block(while(variable("a"), deep))
	}
	args := slices.Repeat([]api.Node{variable("a")}, 16)
	for name, n := range map[string]api.Node{
		"minuses":    minuses(60),
		"blocks":     deep,
		"statements": block(slices.Repeat([]api.Node{ret(variable("a"))}, 200)...),
		"files":      file(slices.Repeat([]api.Node{constant("a", number(1))}, 200)...),
		"arguments":  call("f", args...),
		"sent":       send(variable("a"), "m", args...),
	} {
		r := resultsOf(n)
		if r.ofWords != api.OK || r.ofText != api.OK || r.ofPlain != api.OK || r.ofLayout != api.OK {
			t.Errorf("%s: Words, Text, Plain and Layout return %d, %d, %d and %d", name, r.ofWords, r.ofText, r.ofPlain, r.ofLayout)
		}
		if !slices.Equal(r.words, modelTexts(n)) || r.text != modelSource(n) || r.plain != r.text || !tree.Equal(r.layout, modelLayout(t, n)) {
			t.Errorf("%s: Plain = %q, want %q", name, r.plain, modelSource(n))
		}
	}
}

// clone returns the tree in new memory, with nil and empty lists as they are.
func clone(n api.Node) api.Node {
	n.Gaps = slices.Clone(n.Gaps)
	n.Kids = slices.Clone(n.Kids)
	for k, kid := range n.Kids {
		n.Kids[k] = clone(kid)
	}
	return n
}

// spoil changes everything that a tree contains.
func spoil(n *api.Node) {
	n.Kind, n.Text = 0, "spoiled"
	for i := range n.Gaps {
		n.Gaps[i] = "spoiled"
	}
	n.Gaps = append(n.Gaps, "spoiled")
	for k := range n.Kids {
		spoil(&n.Kids[k])
	}
}

// R3: the arguments are neither modified nor retained, and results are new memory, no two parts of which are shared.
func TestMemory(t *testing.T) {
	for _, n := range programs(t, 300) {
		before := clone(n)
		r := resultsOf(n)
		if !reflect.DeepEqual(n, before) {
			t.Fatalf("%v is modified to %v", before, n)
		}
		want := clone(r.layout)
		spoil(&n)
		if !reflect.DeepEqual(r.layout, want) {
			t.Fatalf("Layout shares memory with its argument")
		}
		n = clone(before)
		spoil(&r.layout)
		if !reflect.DeepEqual(n, before) {
			t.Fatalf("the argument of Layout shares memory with the result")
		}
		for i := range r.words {
			r.words[i] = "spoiled"
		}
		if again := resultsOf(n); !reflect.DeepEqual(again.layout, want) || !slices.Equal(again.words, modelTexts(n)) || again.text != r.text || again.plain != r.plain {
			t.Fatalf("the results of %v differ from call to call", n)
		}
	}
}

package project_test

import (
	"slices"
	"strings"
	"testing"

	"treemerge/api"
	"treemerge/grammar"
	"treemerge/parse"
	"treemerge/print"
	"treemerge/project"
	"treemerge/tree"
)

// The tests of P11.2 for Make, and of P11.4 for it.

// wantMake checks what Make returns: a unit with the text and its tree, or the error alone.
func wantMake(t *testing.T, name, path string, n api.Node, text string, want api.Errno) {
	t.Helper()
	x, e := project.Make(path, n)
	if e != want {
		t.Errorf("%s: Make = %d, want %d", name, e, want)
		return
	}
	if want != api.OK {
		if x.Path != "" || x.Text != "" || x.Broken || !isZero(x.Tree) {
			t.Errorf("%s: Make = %v, %d", name, x, e)
		}
		return
	}
	if !sameUnit(x, api.Unit{Path: path, Text: text, Tree: parsed(t, text)}) {
		t.Errorf("%s: Make = %v, want %q", name, x, text)
	}
	if !tree.Same(x.Tree, n) {
		t.Errorf("%s: the tree of the unit is %v, want %v", name, x.Tree, n)
	}
}

// wide returns a file of constants without gaps whose source has this many bytes, which are about MaxText.
func wide(size int) api.Node {
	const count, line = 118, len("const  = ;\n\n") + 16*api.MaxName + 14*len(" + ")
	name := strings.Repeat("x", api.MaxName)
	sum := node(api.KdName, name)
	for range 14 {
		sum = node(api.KdBinary, "+", sum, node(api.KdName, name))
	}
	n := file(slices.Repeat([]api.Node{node(api.KdConst, name, sum)}, count)...)
	excess := count*line - 1 - size
	for i := range n.Kids {
		cut := min(excess, api.MaxName-1)
		n.Kids[i].Text = name[cut:]
		excess -= cut
	}
	return n
}

// spaced returns a file whose source has this many bytes by its last gap.
func spaced(size int) api.Node {
	return withGaps(file(constant("k")), strings.Repeat("\n", size-len("const k = 1;")))
}

// P11.2: trees without gaps, with all of them, and with some, also such as are printed with further spaces.
func TestMake(t *testing.T) {
	k := constant("k")
	tight := withGaps(k, "", "", "", "")
	one := func(x api.Node) api.Node { return file(node(api.KdConst, "k", x)) }
	slash := node(api.KdBinary, "/", number("1"), withGaps(number("2"), "// c\n"))
	minus := withGaps(node(api.KdUnary, "-", withGaps(number("1"), "\n")), "")
	f := function("f", params(param("a")), node(api.KdReturn, "", node(api.KdName, "a")))
	for _, x := range []struct {
		name string
		tree api.Node
		text string
	}{
		{"no kids", file(), ""},
		{"no kids, but a gap", withGaps(file(), " // é\n"), " // é\n"},
		{"an empty gap", withGaps(file(), ""), ""},
		{"a constant", file(k), "const k = 1;\n"},
		{"a constant with an end", withGaps(file(k), ""), "const k = 1;"},
		{"two constants", file(k, k), "const k = 1;\n\nconst k = 1;\n"},
		{"gaps", withGaps(file(withGaps(k, " ", "//\n", "\t", "  "), k), " // c\n"), " const//\nk\t= 1  ;\n\nconst k = 1; // c\n"},
		{"empty gaps", file(tight, tight), "const k= 1;const k= 1;\n"},
		{"a gap that begins with a slash", one(slash), "const k = 1 / // c\n2;\n"},
		{"a minus", one(minus), "const k =-\n1;\n"},
		{"a function", file(f), "fn f(a int) int {\n\treturn a;\n}\n"},
		{"a class", file(node(api.KdClass, "C", node(api.KdBase, "B"), f)), "class C : B {\n\tfn f(a int) int {\n\t\treturn a;\n\t}\n}\n"},
		{"a function with gaps", file(function("f", params(), node(api.KdReturn, "", withGaps(node(api.KdName, "a"), "")))), "fn f() int {\n\treturn a;\n}\n"},
		{"doubles", file(f, f), "fn f(a int) int {\n\treturn a;\n}\n\nfn f(a int) int {\n\treturn a;\n}\n"},
	} {
		for _, path := range []string{"a", "lib/x-1.tm", strings.Repeat("p", api.MaxPath)} {
			wantMake(t, x.name, path, x.tree, x.text, api.OK)
		}
	}
}

// P11.2: trees of all sorts; the unit has the text of print.Text, and the tree of it.
func TestMakePrints(t *testing.T) {
	for _, x := range sources() {
		if x.broken {
			continue
		}
		n := parsed(t, x.text)
		wantMake(t, x.name, "a", n, x.text, api.OK)
		rows := tree.Rows(n)
		for i := range rows {
			if i%2 == 0 {
				rows[i].Gaps = nil
			}
			if i%5 == 3 {
				rows[i].Gaps = make([]string, len(rows[i].Gaps))
			}
		}
		some, _ := tree.Build(rows)
		for _, m := range []api.Node{tree.Bare(n), some} {
			s, e := print.Text(m)
			wantMake(t, x.name+" without gaps", "b", m, s, e)
		}
	}
}

// P11.2: paths that are not valid, with any trees.
func TestMakeWrongPath(t *testing.T) {
	deep := node(api.KdInt, "1")
	for range api.MaxDepth {
		deep = node(api.KdUnary, "-", deep)
	}
	for _, path := range wrongPaths() {
		for _, n := range []api.Node{file(), file(constant("k")), {}, number("1"), node(api.KdFile, "x"), file(constant("1")), deep, file(deep), spaced(api.MaxText + 1), file(slices.Repeat([]api.Node{constant("k")}, 201)...)} {
			wantMake(t, path, path, n, "", api.ErrName)
		}
	}
}

// P11.2: trees whose root is no KdFile, whatever else is wrong with them.
func TestMakeNoFile(t *testing.T) {
	f := parsed(t, strings.Join([]string{"class C : B { fn m(a int) int { let b = -1 + 2; a = (b); if true { return b; } else { f(a).m(); } while a { } return new C(); self; } }", "const k = 1;"}, "\n"))
	seen := map[int]bool{}
	for i := 1; i < tree.Size(f); i++ {
		n, _ := tree.At(f, i)
		if grammar.Check(n) != api.OK {
			t.Fatalf("%v is not well-formed", n)
		}
		seen[n.Kind] = true
		wantMake(t, "a part", "a", n, "", api.ErrKind)
	}
	if len(seen) < api.Kinds-3 {
		t.Errorf("there are only %d kinds", len(seen))
	}
	for kind := -2; kind < api.Kinds+3; kind++ {
		if kind != api.KdFile {
			wantMake(t, "a kind alone", "a", node(kind, ""), "", api.ErrKind)
		}
	}
	deep := node(api.KdInt, "x")
	for range api.MaxDepth {
		deep = node(api.KdUnary, "-", deep)
	}
	wantMake(t, "the zero tree", "a", api.Node{}, "", api.ErrKind)
	wantMake(t, "a file in another tree", "a", block(file()), "", api.ErrKind)
	wantMake(t, "many levels", "a", deep, "", api.ErrKind)
	wantMake(t, "a wrong name", "a", constant("1"), "", api.ErrKind)
	wantMake(t, "a long source", "a", withGaps(constant("k"), strings.Repeat(" ", api.MaxText), "", "", ""), "", api.ErrKind)
	wantMake(t, "many kids", "a", block(slices.Repeat([]api.Node{let("x")}, api.MaxKids+1)...), "", api.ErrKind)
}

// P11.2: files that are not well-formed return the error of grammar.Check.
func TestMakeMalformed(t *testing.T) {
	k := constant("k")
	deep := number("1")
	for range api.MaxDepth {
		deep = node(api.KdUnary, "-", deep)
	}
	long := withGaps(k, strings.Repeat(" ", api.MaxText+1), " ", " ", "")
	for _, x := range []struct {
		name string
		tree api.Node
		want api.Errno
	}{
		{"a text", node(api.KdFile, "x"), api.ErrKind},
		{"a statement", file(let("x")), api.ErrKind},
		{"a file in a file", file(file()), api.ErrKind},
		{"a zero tree in a file", file(api.Node{}), api.ErrKind},
		{"a function without kids", file(node(api.KdFunc, "f")), api.ErrKind},
		{"an operand", file(node(api.KdConst, "k", node(api.KdUnary, "-", node(api.KdBinary, "+", number("1"), number("2"))))), api.ErrKind},
		{"two gaps", withGaps(file(), "", ""), api.ErrKind},
		{"a gap that is none", withGaps(file(k), "x"), api.ErrKind},
		{"a comment without an end", withGaps(file(k), "// c"), api.ErrKind},
		{"a few gaps", file(withGaps(k, "", "")), api.ErrKind},
		{"a name", file(constant("1")), api.ErrName},
		{"a keyword", file(constant("fn")), api.ErrName},
		{"an integer", file(node(api.KdConst, "k", number("01"))), api.ErrName},
		{"a base", file(node(api.KdClass, "C", node(api.KdBase, "1"))), api.ErrName},
		{"many kids", file(slices.Repeat([]api.Node{k}, api.MaxKids+1)...), api.ErrLimit},
		{"many levels", file(node(api.KdConst, "k", deep)), api.ErrLimit},
		{"many parameters", file(function("f", params(slices.Repeat([]api.Node{param("a")}, api.MaxArgs+1)...))), api.ErrLimit},
		{"many levels and a wrong name", file(node(api.KdConst, "1", deep)), api.ErrLimit},
		{"many levels and a wrong kind", file(let("x"), node(api.KdConst, "k", deep)), api.ErrLimit},
		{"a wrong name, then a wrong kind", file(constant("1"), function("f", params(), file())), api.ErrName},
		{"a wrong kind, then a wrong name", file(node(api.KdConst, "k", file()), constant("1")), api.ErrKind},
		{"a long source and a name", file(long, constant("1")), api.ErrName},
		{"a long source and a kind", file(long, node(api.KdConst, "k", block())), api.ErrKind},
		{"a long source and a gap", withGaps(file(long), "x"), api.ErrKind},
	} {
		if e := grammar.Check(x.tree); e != x.want {
			t.Errorf("%s: Check = %d", x.name, e)
		}
		wantMake(t, x.name, "a", x.tree, "", x.want)
	}
}

// P11.2: sources of MaxText bytes, and of more, by a gap and in the canonical layout.
func TestMakeLongSource(t *testing.T) {
	for _, size := range []int{api.MaxText - 1, api.MaxText, api.MaxText + 1, api.MaxText + 2, 3 * api.MaxText} {
		n, want := spaced(size), api.OK
		if size > api.MaxText {
			want = api.ErrLimit
		}
		s := ""
		if want == api.OK {
			s = "const k = 1;" + n.Gaps[0]
		}
		wantMake(t, "a gap", "a", n, s, want)
	}
	for _, size := range []int{api.MaxText - 1, api.MaxText, api.MaxText + 1} {
		n := wide(size)
		if e := grammar.Check(n); e != api.OK {
			t.Fatalf("Check of the wide tree = %d", e)
		}
		s, e := print.Text(n)
		if e == api.OK && len(s) != size || e != api.OK && size <= api.MaxText {
			t.Fatalf("Text of the wide tree = %d bytes, %d, want %d", len(s), e, size)
		}
		wantMake(t, "the canonical layout", "a", n, s, e)
	}
	wantMake(t, "a wide tree with a long gap", "a", withGaps(wide(api.MaxText), " \n "), "", api.ErrLimit)
}

// P11.4: a unit that was made is loaded from its file, and made again.
func TestMakeAndLoad(t *testing.T) {
	for _, n := range []api.Node{file(), file(constant("k")), withGaps(file(function("f", params())), "// f\n"), spaced(api.MaxText)} {
		x, e := project.Make("a", n)
		if e != api.OK {
			t.Fatalf("Make of %v = %d", n, e)
		}
		u, e := project.Load(project.Files([]api.Unit{x}))
		if e != api.OK || len(u) != 1 || !sameUnit(u[0], x) {
			t.Errorf("Load of the file of %v = %v, %d", x, u, e)
		}
		if again, e := project.Make(x.Path, x.Tree); e != api.OK || !sameUnit(again, x) {
			t.Errorf("Make of %v = %v, %d", x, again, e)
		}
		if m, e, _ := parse.File(x.Text); e != api.OK || !tree.Equal(m, x.Tree) {
			t.Errorf("the tree of %q is %v, %d", x.Text, x.Tree, e)
		}
	}
}

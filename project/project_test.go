package project_test

import (
	"slices"
	"strconv"
	"strings"
	"testing"

	"treemerge/api"
	"treemerge/parse"
	"treemerge/print"
	"treemerge/project"
	"treemerge/tree"
)

// The tests of P11.1, of P11.2 for Load and Files, and of P11.4 for them.

// wantCheck checks what Check returns, and that Load returns no units with an error, and one for each file without one.
func wantCheck(t *testing.T, name string, l []api.File, want api.Errno) {
	t.Helper()
	if e := project.Check(l); e != want {
		t.Errorf("%s: Check = %d, want %d", name, e, want)
	}
	u, e := project.Load(l)
	if e != want || want != api.OK && len(u) != 0 || want == api.OK && len(u) != len(l) {
		t.Errorf("%s: Load = %d units, %d, want %d", name, len(u), e, want)
	}
}

// files returns sorted files, of which the paths are valid.
func files(count int) []api.File {
	l := make([]api.File, count)
	for i := range l {
		l[i] = api.File{Path: "f" + strconv.Itoa(100+i) + ".tm", Text: "const k = " + strconv.Itoa(i) + ";\n"}
	}
	return l
}

// comment returns a source of this many bytes.
func comment(size int) string {
	return "//" + strings.Repeat("x", size-3) + "\n"
}

// with returns the list in which the element with the index i is x.
func with(l []api.File, i int, x api.File) []api.File {
	l = slices.Clone(l)
	l[i] = x
	return l
}

// wrongPaths are strings that are no paths.
func wrongPaths() []string {
	return []string{"", "/", "/a", "a/", "a//b", ".", "..", "a/.", "../a", "a b", "a\n", "a\\b", "é", "\xff", "a\x00", strings.Repeat("a", api.MaxPath+1)}
}

// P11.1, P11.2: every number of files.
func TestNumberOfFiles(t *testing.T) {
	wantCheck(t, "nil", nil, api.OK)
	wantCheck(t, "empty", []api.File{}, api.OK)
	for count := range 2*api.MaxFiles + 2 {
		want := api.OK
		if count > api.MaxFiles {
			want = api.ErrLimit
		}
		wantCheck(t, strconv.Itoa(count), files(count), want)
	}
	wantCheck(t, "many", files(800), api.ErrLimit)
}

// P11.1, P11.2: paths that are valid, and paths that are not, at each place of the list.
func TestPaths(t *testing.T) {
	for _, path := range []string{"a", "a.tm", "lib/x-1.tm", "...", "-", "_", "0", ".a", "A/b/C/d", strings.Repeat("a", api.MaxPath), strings.Repeat("a/", api.MaxPath/2-1) + "ab"} {
		wantCheck(t, path, []api.File{{Path: path}}, api.OK)
	}
	for _, path := range wrongPaths() {
		wantCheck(t, path, []api.File{{Path: path}}, api.ErrName)
		for _, count := range []int{2, 3, api.MaxFiles} {
			for i := range count {
				wantCheck(t, path+" at "+strconv.Itoa(i), with(files(count), i, api.File{Path: path}), api.ErrName)
			}
		}
	}
	wantCheck(t, "all wrong", make([]api.File, api.MaxFiles), api.ErrName)
}

// P11.1, P11.2: paths are sorted byte by byte; each two and each three of these that are not sorted return ErrOrder.
func TestOrder(t *testing.T) {
	paths := []string{"-", ".a", "0", "10", "2", "A", "Z", "_", "a", "a-b", "a.tm", "a/b", "a/b/c", "a0", "aB", "a_", "aa", "b"}
	if !slices.IsSorted(paths) {
		t.Fatalf("%q are not sorted", paths)
	}
	for i, a := range paths {
		for k, b := range paths {
			want := api.OK
			if i >= k {
				want = api.ErrOrder
			}
			wantCheck(t, a+" "+b, []api.File{{Path: a}, {Path: b}}, want)
			for m, c := range paths {
				third := want
				if k >= m {
					third = api.ErrOrder
				}
				wantCheck(t, a+" "+b+" "+c, []api.File{{Path: a}, {Path: b}, {Path: c}}, third)
			}
		}
	}
}

// P11.1, P11.2: a path twice, and two paths that are swapped, at each place of the list; the texts do not matter.
func TestOrderAtEachPlace(t *testing.T) {
	for _, count := range []int{2, 3, 5, api.MaxFiles} {
		l := files(count)
		wantCheck(t, "sorted", l, api.OK)
		for i := range count - 1 {
			wantCheck(t, "twice at "+strconv.Itoa(i), with(l, i+1, api.File{Path: l[i].Path, Text: "fn"}), api.ErrOrder)
			wantCheck(t, "the same file at "+strconv.Itoa(i), with(l, i+1, l[i]), api.ErrOrder)
			wantCheck(t, "swapped at "+strconv.Itoa(i), with(with(l, i, l[i+1]), i+1, l[i]), api.ErrOrder)
		}
		l[0], l[count-1] = l[count-1], l[0]
		wantCheck(t, "the ends swapped", l, api.ErrOrder)
		slices.SortFunc(l, func(a, b api.File) int { return -strings.Compare(a.Path, b.Path) })
		wantCheck(t, "descending", l, api.ErrOrder)
	}
}

// P11.1, P11.2: texts of MaxText bytes, and of one more, at each place of the list.
func TestLongTexts(t *testing.T) {
	most, more := comment(api.MaxText), comment(api.MaxText+1)
	for _, count := range []int{1, 2, 3, api.MaxFiles} {
		l := files(count)
		for i := range count {
			wantCheck(t, "most at "+strconv.Itoa(i), with(l, i, api.File{Path: l[i].Path, Text: most}), api.OK)
			wantCheck(t, "more at "+strconv.Itoa(i), with(l, i, api.File{Path: l[i].Path, Text: more}), api.ErrLimit)
			wantCheck(t, "far more at "+strconv.Itoa(i), with(l, i, api.File{Path: l[i].Path, Text: strings.Repeat(more, 3)}), api.ErrLimit)
		}
		for i := range l {
			l[i].Text = most
		}
		wantCheck(t, "all of them", l, api.OK)
	}
	wantCheck(t, "bytes", []api.File{{Path: "a", Text: strings.Repeat("é", api.MaxText/2)}}, api.OK)
	wantCheck(t, "more bytes", []api.File{{Path: "a", Text: strings.Repeat("é", api.MaxText/2) + "x"}}, api.ErrLimit)
	u, e := project.Load([]api.File{{Path: "a", Text: most}, {Path: "b", Text: strings.Repeat("\x00", api.MaxText)}})
	if e != api.OK || len(u) != 2 || u[0].Text != most || u[0].Broken || !u[1].Broken {
		t.Errorf("Load of the longest texts = %d, the broken ones %t, %t", e, u[0].Broken, u[1].Broken)
	}
}

// P11.1, P11.2: where two errors apply, the first one of the chapter is returned, wherever they are in the list.
func TestFirstErrors(t *testing.T) {
	more, l := comment(api.MaxText+1), files(api.MaxFiles)
	for _, i := range []int{0, 1, api.MaxFiles / 2, api.MaxFiles} {
		tooMany := files(api.MaxFiles + 1)
		wantCheck(t, "too many, a wrong path", with(tooMany, i, api.File{}), api.ErrLimit)
		wantCheck(t, "too many, one twice", with(tooMany, max(i, 1), tooMany[max(i, 1)-1]), api.ErrLimit)
		wantCheck(t, "too many, a long text", with(tooMany, i, api.File{Path: tooMany[i].Path, Text: more}), api.ErrLimit)
	}
	for _, i := range []int{0, 1, 7, api.MaxFiles - 2, api.MaxFiles - 1} {
		for _, k := range []int{0, 1, 7, api.MaxFiles - 2} {
			name := strconv.Itoa(i) + " and " + strconv.Itoa(k)
			long := with(l, i, api.File{Path: l[i].Path, Text: more})
			wantCheck(t, "a wrong path with a long text at "+name, with(l, i, api.File{Path: "a b", Text: more}), api.ErrName)
			if i != k {
				wantCheck(t, "a long text and a wrong path at "+name, with(long, k, api.File{Path: "/"}), api.ErrName)
				wantCheck(t, "a long text and another order at "+name, with(long, k, api.File{Path: []string{"z", "a"}[min(k, 1)]}), api.ErrOrder)
				swapped := with(with(l, k, l[k+1]), k+1, l[k])
				wantCheck(t, "a wrong path and another order at "+name, with(swapped, i, api.File{Path: l[i].Path + " "}), api.ErrName)
			}
		}
	}
	wantCheck(t, "a wrong path that is not sorted", []api.File{{Path: "b"}, {Path: ""}}, api.ErrName)
	wantCheck(t, "wrong paths that are equal", []api.File{{Path: "/"}, {Path: "/"}}, api.ErrName)
	wantCheck(t, "another order, then a wrong path", []api.File{{Path: "b"}, {Path: "a"}, {Path: "c/"}}, api.ErrName)
	wantCheck(t, "one path twice, with long texts", []api.File{{Path: "a", Text: more}, {Path: "a", Text: more}}, api.ErrOrder)
	wantCheck(t, "all errors but the first", []api.File{{Path: "b", Text: more}, {Path: "a", Text: more}, {Path: "a "}}, api.ErrName)
}

// source is a text, and whether parse.File accepts it.
type source struct {
	name   string
	text   string
	broken bool
}

// sources are texts of all sorts.
func sources() []source {
	return []source{
		{"empty", "", false},
		{"a blank", " ", false},
		{"line feeds", "\n\n", false},
		{"a comment", "// \xff\x00 é\r\n", false},
		{"a function", "fn f ( a int,b bool ) C { return f(a,  b) ; } // f\n", false},
		{"a class", "class C: B{fn m()int{ let x=1; return self . m( ); }\n\t// C\n}", false},
		{"a constant", "const k = -(1 / //k\n2);", false},
		{"a space between slashes", "const k = 1 / //k\n2;", false},
		{"doubles", "fn f() int { }\nfn f() int { }\nconst f = x;", false},
		{"an unbound name", "fn f() A { return g(x); }", false},
		{"200 declarations", strings.Repeat("const k=1;", 200), false},
		{"16 arguments", "fn f() int { g(0" + strings.Repeat(",0", 15) + "); }", false},
		{"no end of a comment", "// x", true},
		{"a word", "fn", true},
		{"a statement", "let x = 1;", true},
		{"an expression", "1 + 2", true},
		{"a missing brace", "fn f() int { return 1;", true},
		{"a further brace", "fn f() int { return 1; } }", true},
		{"another byte", "const k = 1; \r", true},
		{"a leading zero", "const k = 01;", true},
		{"a great integer", "const k = 1000000000001;", true},
		{"a long name", "const " + strings.Repeat("k", api.MaxName+1) + " = 1;", true},
		{"compared twice", "const k = 1 < 2 < 3;", true},
		{"201 declarations", strings.Repeat("const k=1;", 201), true},
		{"17 arguments", "fn f() int { g(0" + strings.Repeat(",0", 16) + "); }", true},
		{"many levels", "const k = " + strings.Repeat("-", 60) + "1;", true},
		{"many nodes", "fn f() int {" + strings.Repeat("f(1+2+3+4+5+6+7+8+9+0);", 200) + "}", true},
	}
}

// P11.2: a file of each sort alone, and what is loaded of it.
func TestLoadOne(t *testing.T) {
	for _, x := range sources() {
		n, _, _ := parse.File(x.text)
		u, e := project.Load([]api.File{{Path: "a/b.tm", Text: x.text}})
		if e != api.OK || len(u) != 1 || !sameUnit(u[0], api.Unit{Path: "a/b.tm", Text: x.text, Tree: n, Broken: x.broken}) {
			t.Errorf("%s: Load = %v, %d", x.name, u, e)
		} else if x.broken != isZero(u[0].Tree) {
			t.Errorf("%s: the tree is %v", x.name, u[0].Tree)
		}
	}
	want := file(withGaps(node(api.KdConst, "k", withGaps(number("1"), " ")), "", " ", " ", ""))
	u, e := project.Load([]api.File{{Path: "a", Text: "const k = 1;\n"}})
	if e != api.OK || len(u) != 1 || !tree.Equal(u[0].Tree, withGaps(want, "\n")) {
		t.Errorf("Load of a constant = %v, %d", u, e)
	}
}

// P11.2: files that are read and files that are not beside each other, in several orders and numbers.
func TestLoad(t *testing.T) {
	all := sources()
	for shift := range all {
		for _, count := range []int{0, 1, 2, 3, len(all), api.MaxFiles} {
			l := files(count)
			want := make([]api.Unit, count)
			for i := range l {
				x := all[(i*(shift+1)+shift)%len(all)]
				l[i].Text = x.text
				n, _, _ := parse.File(x.text)
				want[i] = api.Unit{Path: l[i].Path, Text: x.text, Tree: n, Broken: x.broken}
			}
			u, e := project.Load(l)
			if e != api.OK || !slices.EqualFunc(u, want, sameUnit) {
				t.Fatalf("Load of %v = %v, %d", l, u, e)
			}
		}
	}
}

// P11.2: Files of units of any kind.
func TestFiles(t *testing.T) {
	n := file(function("f", params()))
	for i, x := range []struct {
		u    []api.Unit
		want []api.File
	}{
		{nil, nil},
		{[]api.Unit{}, nil},
		{[]api.Unit{{}}, []api.File{{}}},
		{[]api.Unit{{Path: "b", Text: "fn", Broken: true}, {Path: "a", Text: "", Tree: n}}, []api.File{{Path: "b", Text: "fn"}, {Path: "a"}}},
		{[]api.Unit{{Path: "a", Text: "x", Tree: n, Broken: true}, {Path: "a", Text: "x"}, {Path: "a", Text: "y"}}, []api.File{{Path: "a", Text: "x"}, {Path: "a", Text: "x"}, {Path: "a", Text: "y"}}},
		{[]api.Unit{{Path: "/ ", Text: "\xff"}, {Text: comment(api.MaxText + 9)}, {Path: strings.Repeat("é", 99)}}, []api.File{{Path: "/ ", Text: "\xff"}, {Text: comment(api.MaxText + 9)}, {Path: strings.Repeat("é", 99)}}},
		{make([]api.Unit, api.MaxFiles+7), make([]api.File, api.MaxFiles+7)},
	} {
		if l := project.Files(x.u); !slices.Equal(l, x.want) {
			t.Errorf("%d: Files = %v, want %v", i, l, x.want)
		}
	}
	u := anyUnits(5, 500, 2)
	l := project.Files(u)
	if len(l) != len(u) {
		t.Fatalf("Files of %d units are %d", len(u), len(l))
	}
	for i, x := range u {
		if l[i] != (api.File{Path: x.Path, Text: x.Text}) {
			t.Errorf("the file of %v is %v", x, l[i])
		}
	}
}

// P11.4: files are given back; the trees of the units are printed as their texts, and the units are made again from them.
func TestLoading(t *testing.T) {
	all := sources()
	for from := 0; from < len(all); from += 5 {
		l := files(min(20, len(all)-from))
		for i := range l {
			l[i].Text = all[from+i].text
		}
		u, e := project.Load(l)
		if back := project.Files(u); e != api.OK || !slices.Equal(back, l) {
			t.Fatalf("Files of Load of %v = %v, %d", l, back, e)
		}
		for _, x := range u {
			if x.Broken {
				continue
			}
			if s, e := print.Text(x.Tree); e != api.OK || s != x.Text {
				t.Errorf("the tree of %q is printed as %q, %d", x.Text, s, e)
			}
			if again, e := project.Make(x.Path, x.Tree); e != api.OK || !sameUnit(again, x) {
				t.Errorf("Make of %v = %v, %d", x, again, e)
			}
		}
	}
}

// P11.1: the examples of the chapter.
func TestExamples(t *testing.T) {
	wantCheck(t, "b and a", []api.File{{Path: "b"}, {Path: "a"}}, api.ErrOrder)
	wantCheck(t, "a twice", []api.File{{Path: "a"}, {Path: "a"}}, api.ErrOrder)
	u, e := project.Load([]api.File{{Path: "a", Text: "fn"}})
	if e != api.OK || len(u) != 1 || !sameUnit(u[0], api.Unit{Path: "a", Text: "fn", Broken: true}) || len(project.Decls(u)) != 0 {
		t.Errorf("Load = %v, %d", u, e)
	}
}

package project_test

import (
	"slices"
	"strconv"
	"testing"

	"treemerge/api"
	"treemerge/project"
	"treemerge/tree"
)

// The tests of P11.3 and P11.5.

// wantDecls checks the declarations of units, which listed writes.
func wantDecls(t *testing.T, name string, u []api.Unit, want string) {
	t.Helper()
	if got := listed(project.Decls(u)); got != want {
		t.Errorf("%s: Decls = %s, want %s", name, got, want)
	}
}

// P11.3: the declarations of one tree, whatever is around them.
func TestDeclsOfTree(t *testing.T) {
	p, none := params(param("a"), param("b")), params()
	for _, x := range []struct {
		name string
		tree api.Node
		want string
	}{
		{"an empty file", file(), ""},
		{"a function", file(function("f", p, let("x"), let("y"))), "0/1 func :f, 0/3 param f:a, 0/5 param f:b, 0/9 let f:x, 0/11 let f:y"},
		{"a class", file(class("C")), "0/1 class :C"},
		{"a base", file(node(api.KdClass, "C", node(api.KdBase, "B"))), "0/1 class :C"},
		{"a constant", file(constant("k")), "0/1 const :k"},
		{"a method", file(class("C", function("m", p, let("x")))), "0/1 class :C, 0/3 method C:m, 0/5 param C.m:a, 0/7 param C.m:b, 0/11 let C.m:x"},
		{"two methods", file(class("C", function("m", none, let("x")), function("n", none, let("x")))), "0/1 class :C, 0/3 method C:m, 0/7 let C.m:x, 0/9 method C:n, 0/13 let C.n:x"},
		{"a method, then a function", file(class("C", function("m", none)), function("m", none, let("x"))), "0/1 class :C, 0/3 method C:m, 0/7 func :m, 0/11 let m:x"},
		{"blocks", file(function("f", none, node(api.KdIf, "", number("1"), block(let("x")), node(api.KdElse, "", block(node(api.KdWhile, "", number("1"), block(let("y")))))))), "0/1 func :f, 0/8 let f:x, 0/15 let f:y"},
		{"a function in a function", file(function("f", none, let("x"), function("g", p, let("y")), let("z"))), "0/1 func :f, 0/5 let f:x, 0/7 func :g, 0/9 param g:a, 0/11 param g:b, 0/15 let g:y, 0/17 let f:z"},
		{"a class in a function", file(function("f", none, class("C", function("m", p, let("x")), let("y")), let("z"))), "0/1 func :f, 0/5 class :C, 0/7 method C:m, 0/9 param C.m:a, 0/11 param C.m:b, 0/15 let C.m:x, 0/17 let f:y, 0/19 let f:z"},
		{"a function in a method", file(class("C", function("m", none, function("f", p, let("x")), let("y")))), "0/1 class :C, 0/3 method C:m, 0/7 func :f, 0/9 param f:a, 0/11 param f:b, 0/15 let f:x, 0/17 let C.m:y"},
		{"a class in a method", file(class("C", function("m", none, class("D", function("n", none, let("x")))))), "0/1 class :C, 0/3 method C:m, 0/7 class :D, 0/9 method D:n, 0/13 let D.n:x"},
		{"a class in a class", file(class("C", class("D", function("m", none, let("x"))), let("y"))), "0/1 class :C, 0/3 class :D, 0/5 method D:m, 0/9 let D.m:x, 0/11 let :y"},
		{"a constant in a method", file(class("C", function("m", none, constant("k")))), "0/1 class :C, 0/3 method C:m, 0/7 const :k"},
		{"a constant in a class", file(class("C", constant("k"))), "0/1 class :C, 0/3 const :k"},
		{"a function in a block in a class", class("C", block(function("f", none, let("x")))), "0/0 class :C, 0/3 func :f, 0/7 let f:x"},
		{"a function in a constant in a class", class("C", node(api.KdConst, "k", function("f", none))), "0/0 class :C, 0/2 const :k, 0/3 func :f"},
		{"a method as the first kid", node(api.KdClass, "C", function("m", none)), "0/0 class :C, 0/1 method C:m"},
		{"a variable in a class", class("C", let("x"), param("a")), "0/0 class :C, 0/2 let :x, 0/4 param :a"},
		{"variables in a file", file(let("x"), params(param("a")), block(let("y"))), "0/1 let :x, 0/4 param :a, 0/7 let :y"},
		{"a variable in a variable", function("f", none, node(api.KdLet, "x", node(api.KdLet, "y", node(api.KdParam, "z")))), "0/0 func :f, 0/4 let f:x, 0/5 let f:y, 0/6 param f:z"},
		{"a variable in a constant", node(api.KdConst, "k", let("x")), "0/0 const :k, 0/1 let :x"},
		{"a function without a name in a function", function("f", none, function("", none, let("x"))), "0/0 func :f, 0/4 func :, 0/8 let :x"},
		{"a method without a name", function("f", none, class("C", function("", none, let("x")))), "0/0 func :f, 0/4 class :C, 0/6 method C:, 0/10 let C.:x"},
		{"a class without a name", function("f", none, class("", function("m", none, let("x")))), "0/0 func :f, 0/4 class :, 0/6 method :m, 0/10 let .m:x"},
		{"names that are none", file(function("1", params(param("")), let("fn")), class("a b", function("C.m", none, let("\xff")))), "0/1 func :1, 0/3 param 1:, 0/7 let 1:fn, 0/9 class :a b, 0/11 method a b:C.m, 0/15 let a b.C.m:\xff"},
		{"few kids", file(node(api.KdFunc, "f"), node(api.KdClass, "C"), node(api.KdConst, "k"), node(api.KdParam, "a"), node(api.KdLet, "x")), "0/1 func :f, 0/2 class :C, 0/3 const :k, 0/4 param :a, 0/5 let :x"},
		{"wrong gaps", withGaps(file(withGaps(function("f", params(withGaps(param("a"), "x", "y"))), "z")), "", ""), "0/1 func :f, 0/3 param f:a"},
		{"other kinds", node(-1, "a", node(0, "b"), node(api.Kinds, "c", let("x")), node(1<<40, "d"), node(-api.KdLet, "e")), "0/3 let :x"},
		{"the zero tree", api.Node{}, ""},
	} {
		wantDecls(t, x.name, units(x.tree), x.want)
	}
}

// P11.3: a root of each kind.
func TestDeclsOfRoots(t *testing.T) {
	want := map[int]string{api.KdFunc: "0/0 func :r", api.KdClass: "0/0 class :r", api.KdConst: "0/0 const :r", api.KdParam: "0/0 param :r", api.KdLet: "0/0 let :r"}
	for kind := -3; kind < api.Kinds+3; kind++ {
		wantDecls(t, strconv.Itoa(kind), units(node(kind, "r")), want[kind])
	}
}

// P11.3: a kid of each kind in a parent of each kind.
func TestDeclsOfKids(t *testing.T) {
	for parent := -1; parent <= api.Kinds; parent++ {
		for kid := -1; kid <= api.Kinds; kid++ {
			u := units(file(node(parent, "p", node(kid, "k", node(api.KdLet, "x")))))
			wantDecls(t, strconv.Itoa(parent)+" "+strconv.Itoa(kid), u, listed(defined(u)))
		}
	}
}

// P11.3: the examples of the chapter.
func TestDeclsOfExamples(t *testing.T) {
	u, e := project.Load([]api.File{{Path: "a", Text: "class C { fn m(a int) int { let b = a; return b; } }\n"}, {Path: "b", Text: "fn"}})
	if e != api.OK || len(u) != 2 || u[0].Broken || !u[1].Broken {
		t.Fatalf("Load = %v, %d", u, e)
	}
	wantDecls(t, "the examples", u, "0/1 class :C, 0/3 method C:m, 0/5 param C.m:a, 0/9 let C.m:b")
	wantDecls(t, "the broken file", u[1:], "")
}

// P11.3: the units in their order, with broken ones between them, which have no declarations even if they have trees.
func TestDeclsOfUnits(t *testing.T) {
	f := file(function("f", params(param("a"))))
	k := file(constant("k"), constant("c"))
	broken := api.Unit{Path: "x", Text: "fn f() int { }\n", Tree: f, Broken: true}
	good := func(n api.Node) api.Unit { return api.Unit{Path: "y", Text: "fn", Tree: n} }
	for _, x := range []struct {
		name string
		u    []api.Unit
		want string
	}{
		{"no units", nil, ""},
		{"an empty list", []api.Unit{}, ""},
		{"one", []api.Unit{good(f)}, "0/1 func :f, 0/3 param f:a"},
		{"two", []api.Unit{good(k), good(f)}, "0/1 const :k, 0/3 const :c, 1/1 func :f, 1/3 param f:a"},
		{"two in another order", []api.Unit{good(f), good(k)}, "0/1 func :f, 0/3 param f:a, 1/1 const :k, 1/3 const :c"},
		{"the same twice", []api.Unit{good(f), good(f)}, "0/1 func :f, 0/3 param f:a, 1/1 func :f, 1/3 param f:a"},
		{"broken", []api.Unit{broken}, ""},
		{"broken first", []api.Unit{broken, good(f)}, "1/1 func :f, 1/3 param f:a"},
		{"broken between", []api.Unit{good(k), broken, broken, good(f)}, "0/1 const :k, 0/3 const :c, 3/1 func :f, 3/3 param f:a"},
		{"broken last", []api.Unit{good(f), broken}, "0/1 func :f, 0/3 param f:a"},
		{"zero units", []api.Unit{{}, good(f), {}}, "1/1 func :f, 1/3 param f:a"},
		{"a variable at the root behind a function", []api.Unit{good(f), good(let("x"))}, "0/1 func :f, 0/3 param f:a, 1/0 let :x"},
		{"a function at the root behind a class", []api.Unit{good(class("C")), good(function("f", params()))}, "0/0 class :C, 1/0 func :f"},
	} {
		wantDecls(t, x.name, x.u, x.want)
	}
}

// wantDefined compares Decls with its definition.
func wantDefined(t *testing.T, u []api.Unit) {
	t.Helper()
	got, want := project.Decls(u), defined(u)
	for i := range min(len(got), len(want)) {
		if got[i] != want[i] {
			t.Fatalf("declaration %d of %d = %v, want %v in %v", i, len(got), got[i], want[i], u[want[i].At.Unit])
		}
	}
	if len(got) != len(want) {
		t.Fatalf("there are %d declarations, want %d", len(got), len(want))
	}
}

// P11.3: all small trees, as the units of one list.
func TestDeclsOfAllSmallTrees(t *testing.T) {
	wantDefined(t, units(allTrees(4, api.KdFunc, api.KdClass, api.KdConst, api.KdParam, api.KdLet, api.KdBlock, 0)...))
	wantDefined(t, units(allTrees(6, api.KdFunc, api.KdClass, api.KdLet)...))
}

// P11.3: trees of all kinds of nodes, also without a kind, and with few different names.
func TestDeclsOfAnyTrees(t *testing.T) {
	for seed := range int64(300) {
		wantDefined(t, anyUnits(seed, int(seed)%50, 2+int(seed)%6))
	}
}

// P11.3: the deepest and the widest trees.
func TestDeclsOfGreatTrees(t *testing.T) {
	const levels = 1 << 16
	deep := let("x")
	for i := range levels - 1 {
		switch i % 3 {
		case 0:
			deep = node(api.KdBlock, "", deep)
		case 1:
			deep = node(api.KdFunc, "f"+strconv.Itoa(i), deep)
		default:
			deep = node(api.KdClass, "C"+strconv.Itoa(i), deep)
		}
	}
	l := project.Decls(units(deep))
	if len(l) != 1+(levels-1)/3*2 {
		t.Fatalf("the deep tree has %d declarations", len(l))
	}
	last := len(l) - 1
	if want := (api.Decl{Kind: api.DcLet, Owner: "C2.f1", Name: "x", At: api.Ref{Node: levels - 1}}); l[last] != want {
		t.Errorf("the last declaration of the deep tree is %v, want %v", l[last], want)
	}
	if want := (api.Decl{Kind: api.DcMethod, Owner: "C2", Name: "f1", At: api.Ref{Node: levels - 3}}); l[last-1] != want {
		t.Errorf("the function of the deep tree is %v, want %v", l[last-1], want)
	}
	wide := function("f", params(), slices.Repeat([]api.Node{let("x")}, 100000)...)
	l = project.Decls(units(wide, wide))
	if len(l) != 200002 || l[200001] != (api.Decl{Kind: api.DcLet, Owner: "f", Name: "x", At: api.Ref{Unit: 1, Node: 4 + 2*99999}}) {
		t.Errorf("the wide trees have %d declarations", len(l))
	}
}

// P11.3: Find in units with equal names.
func TestFind(t *testing.T) {
	p, none := params(param("a"), param("a")), params()
	first := file(
		function("f", p, let("a"), let("x"), let("x")),
		class("f", function("f", p, let("x")), function("f", none, let("y"))),
		constant("f"),
		function("f", none, let("x"), let("z")),
	)
	second := file(constant("k"), class("f", function("g", none)), constant("f"), function("h", none))
	u := []api.Unit{{Tree: file(constant("f"), function("h", none), constant("b")), Broken: true}, {Tree: first}, {}, {Tree: second}, {Tree: second}}
	for _, x := range []struct {
		kind  int
		owner string
		name  string
		want  string
	}{
		{api.DcFunc, "", "f", "1/1 func :f"},
		{api.DcClass, "", "f", "1/15 class :f"},
		{api.DcMethod, "f", "f", "1/17 method f:f"},
		{api.DcConst, "", "f", "1/33 const :f"},
		{api.DcParam, "f", "a", "1/3 param f:a"},
		{api.DcParam, "f.f", "a", "1/19 param f.f:a"},
		{api.DcLet, "f", "a", "1/9 let f:a"},
		{api.DcLet, "f", "x", "1/11 let f:x"},
		{api.DcLet, "f", "z", "1/41 let f:z"},
		{api.DcLet, "f.f", "x", "1/25 let f.f:x"},
		{api.DcLet, "f.f", "y", "1/31 let f.f:y"},
		{api.DcConst, "", "k", "3/1 const :k"},
		{api.DcMethod, "f", "g", "3/5 method f:g"},
		{api.DcFunc, "", "h", "3/11 func :h"},
		{api.DcConst, "", "b", ""},
		{api.DcFunc, "", "g", ""},
		{api.DcFunc, "f", "f", ""},
		{api.DcMethod, "", "f", ""},
		{api.DcMethod, "f", "h", ""},
		{api.DcLet, "", "x", ""},
		{api.DcLet, "f", "y", ""},
		{api.DcLet, "f.g", "x", ""},
		{api.DcParam, "", "a", ""},
		{api.DcParam, "f", "x", ""},
		{api.DcClass, "", "k", ""},
		{api.DcClass, "", "F", ""},
		{api.DcConst, "", "", ""},
		{0, "", "f", ""},
		{0, "", "", ""},
		{-1, "", "f", ""},
		{7, "", "f", ""},
	} {
		d, ok := project.Find(u, x.kind, x.owner, x.name)
		if ok && listed([]api.Decl{d}) != x.want || !ok && (x.want != "" || d != api.Decl{}) {
			t.Errorf("Find(%d, %q, %q) = %v, %t, want %s", x.kind, x.owner, x.name, d, ok, x.want)
		}
	}
}

// P11.3: owners and names that are equal when they are joined, with whatever between them, are different ones.
func TestFindJoined(t *testing.T) {
	for _, between := range []string{"", ".", "/", ":", " ", ",", "\x00", "\n"} {
		u := units(file(class("a", function("b"+between+"c", params())), class("a"+between+"b", function("c", params()))))
		for _, x := range []struct {
			owner, name string
			node        int
		}{{"a", "b" + between + "c", 3}, {"a" + between + "b", "c", 9}} {
			d, ok := project.Find(u, api.DcMethod, x.owner, x.name)
			if want := (api.Decl{Kind: api.DcMethod, Owner: x.owner, Name: x.name, At: api.Ref{Node: x.node}}); !ok || d != want {
				t.Errorf("Find(%q, %q) = %v, %t, want %v", x.owner, x.name, d, ok, want)
			}
		}
		joined := "a" + between + "b" + between + "c"
		for _, x := range [][2]string{{"", joined}, {joined, ""}} {
			if d, ok := project.Find(u, api.DcMethod, x[0], x[1]); ok || d != (api.Decl{}) {
				t.Errorf("Find(%q, %q) = %v, %t", x[0], x[1], d, ok)
			}
		}
	}
}

// P11.3: Find in no units, in broken ones, and in one with a zero tree.
func TestFindNothing(t *testing.T) {
	n := function("f", params())
	for _, u := range [][]api.Unit{nil, {}, {{Tree: n, Broken: true}}, {{}}, {{Text: "fn f() int { }\n"}}} {
		for kind := range 8 {
			for _, name := range []string{"", "f"} {
				if d, ok := project.Find(u, kind, "", name); ok || d != (api.Decl{}) {
					t.Errorf("Find(%v, %d, %q) = %v, %t", u, kind, name, d, ok)
				}
			}
		}
	}
}

// P11.3, P11.5: Find of every kind, owner and name that occurs, and of others, returns the first declaration of Decls that fits.
func TestFindFirst(t *testing.T) {
	hits, misses, declared := 0, 0, 0
	for seed := range int64(60) {
		u := anyUnits(1000+seed, 1+int(seed)%6, 5)
		l := project.Decls(u)
		owners, names := []string{"", "f.", "other"}, []string{"", "other"}
		for _, d := range l {
			owners, names = append(owners, d.Owner), append(names, d.Name)
		}
		slices.Sort(owners)
		slices.Sort(names)
		owners, names = slices.Compact(owners), slices.Compact(names)
		for kind := -1; kind <= 7; kind++ {
			for _, owner := range owners {
				for _, name := range names {
					want, wantOk := found(l, kind, owner, name)
					if d, ok := project.Find(u, kind, owner, name); d != want || ok != wantOk {
						t.Fatalf("Find(%v, %d, %q, %q) = %v, %t, want %v, %t", u, kind, owner, name, d, ok, want, wantOk)
					}
					if wantOk {
						hits++
					} else {
						misses++
					}
				}
			}
		}
		declared += len(l)
	}
	if hits < 1000 || misses < 1000 || declared < hits+300 {
		t.Errorf("there have been only %d hits among %d declarations, and %d misses", hits, declared, misses)
	}
}

// P11.5: each declaration is at a node of its kind with its name, they are in order, and Find of each returns the first one that fits.
func TestDeclarations(t *testing.T) {
	kinds := map[int]int{api.DcFunc: api.KdFunc, api.DcMethod: api.KdFunc, api.DcClass: api.KdClass, api.DcConst: api.KdConst, api.DcParam: api.KdParam, api.DcLet: api.KdLet}
	for seed := range int64(40) {
		u := anyUnits(2000+seed, 5, 6)
		l := project.Decls(u)
		for i, d := range l {
			n, ok := tree.At(u[d.At.Unit].Tree, d.At.Node)
			if !ok || u[d.At.Unit].Broken || n.Kind != kinds[d.Kind] || n.Text != d.Name {
				t.Fatalf("%v is at the node %v", d, n)
			}
			if i > 0 && (d.At.Unit < l[i-1].At.Unit || d.At.Unit == l[i-1].At.Unit && d.At.Node <= l[i-1].At.Node) {
				t.Fatalf("%v follows %v", d, l[i-1])
			}
			fits := func(x api.Decl) bool { return x.Kind == d.Kind && x.Owner == d.Owner && x.Name == d.Name }
			if x, ok := project.Find(u, d.Kind, d.Owner, d.Name); !ok || x != l[slices.IndexFunc(l, fits)] {
				t.Fatalf("Find returns %v, %t for %v", x, ok, d)
			}
		}
	}
}

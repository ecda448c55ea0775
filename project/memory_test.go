package project_test

import (
	"fmt"
	"slices"
	"testing"

	"treemerge/api"
	"treemerge/project"
	"treemerge/tree"
)

// The tests of rule R3: arguments keep their elements, and results are new memory.

// longer returns the list as a part of a longer one, which goes on with more.
func longer[E any](l []E, more ...E) []E {
	return append(slices.Clone(l), more...)[:len(l)]
}

// padded returns the tree in lists that are parts of longer ones.
func padded(n api.Node) api.Node {
	n.Gaps = longer(n.Gaps, " // behind\n", "x")
	n.Kids = longer(n.Kids, number("1"), block(let("behind")))
	for k, kid := range n.Kids {
		n.Kids[k] = padded(kid)
	}
	return n
}

// paddedUnits returns the units in such lists.
func paddedUnits(u []api.Unit) []api.Unit {
	u = longer(u, api.Unit{Path: "behind", Text: "fn", Tree: let("behind")})
	for i := range u {
		u[i].Tree = padded(u[i].Tree)
	}
	return u
}

// memory writes everything that the lists of a tree hold, also behind their ends.
func memory(n api.Node) string {
	s := fmt.Sprintf("%d %q %d%q %d(", n.Kind, n.Text, len(n.Gaps), n.Gaps[:cap(n.Gaps)], len(n.Kids))
	for _, kid := range n.Kids[:cap(n.Kids)] {
		s += memory(kid)
	}
	return s + ")"
}

// memoryOfUnits writes everything that the lists of units hold.
func memoryOfUnits(u []api.Unit) string {
	s := fmt.Sprint(len(u))
	for _, x := range u[:cap(u)] {
		s += fmt.Sprintf("%q %q %t ", x.Path, x.Text, x.Broken) + memory(x.Tree)
	}
	return s
}

// spoil changes everything that the lists of a tree hold, also behind their ends.
func spoil(n api.Node) {
	for i := range n.Gaps[:cap(n.Gaps)] {
		n.Gaps[:cap(n.Gaps)][i] += "spoiled"
	}
	for k, kid := range n.Kids[:cap(n.Kids)] {
		spoil(kid)
		n.Kids[:cap(n.Kids)][k] = node(77, "spoiled")
	}
}

// spoilUnits changes everything that the lists of units hold.
func spoilUnits(u []api.Unit) {
	u = u[:cap(u)]
	for i, x := range u {
		spoil(x.Tree)
		u[i] = api.Unit{Path: "spoiled", Text: "spoiled", Tree: node(77, "spoiled"), Broken: !x.Broken}
	}
}

// fill sets all elements of a list, also behind its end.
func fill[E any](l []E, x E) {
	l = l[:cap(l)]
	for i := range l {
		l[i] = x
	}
}

// gapLists and kidLists return all lists of a tree.
func gapLists(n api.Node) [][]string {
	l := [][]string{n.Gaps}
	for _, k := range n.Kids {
		l = append(l, gapLists(k)...)
	}
	return l
}

func kidLists(n api.Node) [][]api.Node {
	l := [][]api.Node{n.Kids}
	for _, k := range n.Kids {
		l = append(l, kidLists(k)...)
	}
	return l
}

// apart reports whether no two of the lists share memory, also behind their ends.
func apart[E any](l [][]E) bool {
	seen := map[*E]bool{}
	for _, list := range l {
		list = list[:cap(list)]
		for i := range list {
			if seen[&list[i]] {
				return false
			}
			seen[&list[i]] = true
		}
	}
	return true
}

// treesApart reports whether no two of the trees share memory.
func treesApart(l ...api.Node) bool {
	var gaps [][]string
	var kids [][]api.Node
	for _, n := range l {
		gaps, kids = append(gaps, gapLists(n)...), append(kids, kidLists(n)...)
	}
	return apart(gaps) && apart(kids)
}

// equalFiles are files with equal texts, and some that are broken.
func equalFiles() []api.File {
	const s = "class C { fn m ( a int ) int { return a; } }\nconst k = 1; // k\n"
	return []api.File{{Path: "a", Text: s}, {Path: "b", Text: "fn"}, {Path: "c", Text: s}, {Path: "d", Text: "fn"}, {Path: "e", Text: s}, {Path: "f"}}
}

// The files that Check and Load get keep their elements, also those behind the end of the list, and when the units are changed.
func TestFilesAreKept(t *testing.T) {
	for _, l := range [][]api.File{equalFiles(), files(api.MaxFiles), {{Path: "b"}, {Path: "a"}}, {{Path: "b"}, {Path: ""}}, files(api.MaxFiles + 1)} {
		l = longer(l, api.File{Path: "a", Text: "fn"}, api.File{Path: "/"})
		before := slices.Clone(l[:cap(l)])
		project.Check(l)
		u, _ := project.Load(l)
		spoilUnits(u)
		if !slices.Equal(l[:cap(l)], before) {
			t.Errorf("the files have become %v, want %v", l, before)
		}
	}
}

// The units of Load share no memory with each other, with those of another call, or with the files.
func TestLoadedUnitsAreApart(t *testing.T) {
	l := equalFiles()
	first, _ := project.Load(l)
	second, _ := project.Load(l)
	want, _ := project.Load(equalFiles())
	var all []api.Node
	for _, x := range append(slices.Clone(first), second...) {
		all = append(all, x.Tree)
	}
	if !treesApart(all...) || !apart([][]api.Unit{first, second}) {
		t.Error("the units share memory")
	}
	fill(l, api.File{Path: "spoiled", Text: "spoiled"})
	spoilUnits(first)
	third, _ := project.Load(equalFiles())
	if len(second) != 6 || !slices.EqualFunc(second, want, sameUnit) || !slices.EqualFunc(third, want, sameUnit) {
		t.Errorf("the units have become %v and %v, want %v", second, third, want)
	}
}

// The tree that Make gets keeps its elements, and the unit shares no memory with it, with another unit, or within itself.
func TestMadeUnitsAreApart(t *testing.T) {
	gaps := []string{" ", " ", " ", " "}
	one := withGaps(number("1"), gaps[:1]...)
	k := withGaps(node(api.KdConst, "k", one), gaps...)
	n := padded(withGaps(file(k, k), gaps[:1]...))
	shared := withGaps(file(k, k, function("f", params(), node(api.KdReturn, "", one))), gaps[:1]...)
	for _, n := range []api.Node{n, shared, tree.Bare(shared), padded(file())} {
		before := memory(n)
		x, e := project.Make("a", n)
		y, f := project.Make("a", n)
		if e != api.OK || f != api.OK || !sameUnit(x, y) || !treesApart(x.Tree, y.Tree) {
			t.Fatalf("Make = %v, %d and %v, %d", x, e, y, f)
		}
		if !apart(append(gapLists(x.Tree), gaps)) || !apart(append(kidLists(x.Tree), n.Kids)) {
			t.Errorf("the unit %v shares memory with its tree", x)
		}
		spoil(x.Tree)
		if memory(n) != before {
			t.Errorf("the tree has become %v", n)
		}
		z, _ := project.Make("a", n)
		if !sameUnit(y, z) {
			t.Errorf("Make = %v, later %v", y, z)
		}
	}
	for _, n := range []api.Node{padded(number("1")), padded(file(let("x"))), padded(withGaps(file(), "x"))} {
		before := memory(n)
		if _, e := project.Make("a", n); e != api.ErrKind || memory(n) != before {
			t.Errorf("with the error %d, the tree has become %v", e, n)
		}
	}
}

// The units that Files, Decls and Find get keep their elements, and the results share no memory with them or with each other.
func TestUnitsAreKept(t *testing.T) {
	loaded, _ := project.Load(equalFiles())
	for _, u := range [][]api.Unit{loaded, anyUnits(7, 9, 4), nil} {
		u = paddedUnits(u)
		before := memoryOfUnits(u)
		f, g := project.Files(u), project.Files(u)
		d, c := project.Decls(u), project.Decls(u)
		wantF, wantD := slices.Clone(g), slices.Clone(c)
		if !apart([][]api.File{f, g}) || !apart([][]api.Decl{d, c}) {
			t.Error("two results share memory")
		}
		fill(f, api.File{Path: "spoiled"})
		fill(d, api.Decl{Name: "spoiled"})
		for _, x := range append(wantD, api.Decl{Kind: api.DcLet, Name: "none"}) {
			y, ok := project.Find(u, x.Kind, x.Owner, x.Name)
			if want, wantOk := found(wantD, x.Kind, x.Owner, x.Name); y != want || ok != wantOk {
				t.Errorf("Find = %v, %t, want %v, %t", y, ok, want, wantOk)
			}
		}
		if memoryOfUnits(u) != before || !slices.Equal(project.Files(u), wantF) || !slices.Equal(project.Decls(u), wantD) {
			t.Errorf("the units have become %v", u)
		}
		spoilUnits(u)
		if !slices.Equal(g, wantF) || !slices.Equal(c, wantD) {
			t.Errorf("the results have become %v and %v", g, c)
		}
	}
}

// The results depend on the arguments alone: not on earlier calls with other ones.
func TestNothingIsKept(t *testing.T) {
	one := units(file(function("f", params(), let("x"))))
	other := units(file(constant("f")), file(function("g", params(), let("x"))))
	for range 3 {
		wantDecls(t, "one", one, "0/1 func :f, 0/5 let f:x")
		wantDecls(t, "the other", other, "0/1 const :f, 1/1 func :g, 1/5 let g:x")
		if d, ok := project.Find(one, api.DcLet, "g", "x"); ok {
			t.Errorf("Find = %v", d)
		}
		if d, ok := project.Find(other, api.DcLet, "g", "x"); !ok || d.At != (api.Ref{Unit: 1, Node: 5}) {
			t.Errorf("Find = %v, %t", d, ok)
		}
	}
}

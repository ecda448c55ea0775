package classes_test

import (
	"math/rand"
	"slices"
	"strconv"
	"strings"
	"testing"

	"treemerge/api"
	"treemerge/classes"
	"treemerge/project"
	"treemerge/tree"
)

func node(kind int, text string, kids ...api.Node) api.Node {
	return api.Node{Kind: kind, Text: text, Kids: kids}
}

func file(l ...api.Node) api.Node { return node(api.KdFile, "", l...) }

func base(s string) api.Node { return node(api.KdBase, s) }

func method(s string, kids ...api.Node) api.Node { return node(api.KdFunc, s, kids...) }

// class returns a class with a KdBase and these methods.
func class(s, baseName string, methods ...string) api.Node {
	n := node(api.KdClass, s, base(baseName))
	for _, m := range methods {
		n.Kids = append(n.Kids, method(m))
	}
	return n
}

// units returns a unit that is not broken for each tree.
func units(l ...api.Node) []api.Unit {
	u := make([]api.Unit, len(l))
	for i, n := range l {
		u[i] = api.Unit{Path: "p" + strconv.Itoa(i), Tree: n}
	}
	return u
}

// load returns the units of sources.
func load(t *testing.T, sources ...string) []api.Unit {
	t.Helper()
	var l []api.File
	for i, s := range sources {
		l = append(l, api.File{Path: "p" + strconv.Itoa(100+i), Text: s + "\n"})
	}
	u, e := project.Load(l)
	if e != api.OK {
		t.Fatalf("Load = %d", e)
	}
	for i, x := range u {
		if x.Broken {
			t.Fatalf("%q is broken", sources[i])
		}
	}
	return u
}

// place writes a node: the word of its kind, its text, and, if nodes of the same kind and text precede it in units that are not broken, how many.
func place(u []api.Unit, at api.Ref) string {
	if at.Unit < 0 || at.Unit >= len(u) || u[at.Unit].Broken {
		return "no node"
	}
	n, ok := tree.At(u[at.Unit].Tree, at.Node)
	if !ok {
		return "no node"
	}
	before := 0
	for i, x := range u[:at.Unit+1] {
		for k, r := range tree.Rows(x.Tree) {
			if !x.Broken && r.Kind == n.Kind && r.Text == n.Text && (i < at.Unit || k < at.Node) {
				before++
			}
		}
	}
	word := map[int]string{api.KdClass: "class", api.KdFunc: "fn", api.KdBase: "base"}[n.Kind]
	s := strings.TrimSpace(word + " " + n.Text)
	if before > 0 {
		s += "#" + strconv.Itoa(before)
	}
	return s
}

// listed writes methods with their classes, each with its place.
func listed(t *testing.T, u []api.Unit, l []api.Decl) string {
	t.Helper()
	var s []string
	for _, d := range l {
		p := place(u, d.At)
		if name, _, _ := strings.Cut(p, "#"); d.Kind != api.DcMethod || name != strings.TrimSpace("fn "+d.Name) {
			t.Errorf("%v is no declaration of %s", d, p)
		}
		s = append(s, d.Owner+"."+strings.TrimPrefix(p, "fn "))
	}
	return strings.Join(s, " ")
}

// model is a project for the definitions: its declarations, and the table of each unit.
type model struct {
	decls []api.Decl
	rows  [][]api.Row
}

func modelOf(u []api.Unit) model {
	m := model{decls: project.Decls(u)}
	for _, x := range u {
		m.rows = append(m.rows, tree.Rows(x.Tree))
	}
	return m
}

// find is the definition of project.Find.
func (m model) find(kind int, owner, name string) (api.Decl, bool) {
	for _, d := range m.decls {
		if d.Kind == kind && d.Owner == owner && d.Name == name {
			return d, true
		}
	}
	return api.Decl{}, false
}

// isDeclared reports whether there is a class of this name.
func (m model) isDeclared(class string) bool {
	_, ok := m.find(api.DcClass, "", class)
	return ok
}

// baseOf returns the text and the node of the first kid of a class that is a KdBase.
func (m model) baseOf(d api.Decl) (string, api.Ref) {
	rows := m.rows[d.At.Unit]
	for _, kid := range rows[d.At.Node].Kids {
		if rows[kid].Kind == api.KdBase {
			return rows[kid].Text, api.Ref{Unit: d.At.Unit, Node: kid}
		}
	}
	return "", api.Ref{}
}

// baseName is the definition of the base name of a declared class.
func (m model) baseName(class string) string {
	d, ok := m.find(api.DcClass, "", class)
	if !ok {
		return ""
	}
	name, _ := m.baseOf(d)
	return name
}

// supers is the definition of Supers.
func (m model) supers(class string) []string {
	var l []string
	for name := m.baseName(class); name != "" && m.isDeclared(name) && name != class && !slices.Contains(l, name); name = m.baseName(name) {
		l = append(l, name)
	}
	return l
}

// classes returns the sorted names of the declared classes.
func (m model) classes() []string {
	var l []string
	for _, d := range m.decls {
		if d.Kind == api.DcClass {
			l = append(l, d.Name)
		}
	}
	slices.Sort(l)
	return slices.Compact(l)
}

// subs is the definition of Subs.
func (m model) subs(class string) []string {
	var l []string
	for _, name := range m.classes() {
		if slices.Contains(m.supers(name), class) {
			l = append(l, name)
		}
	}
	return l
}

// lookup is the definition of Lookup.
func (m model) lookup(class, method string) (api.Decl, bool) {
	for _, name := range append([]string{class}, m.supers(class)...) {
		if d, ok := m.find(api.DcMethod, name, method); ok {
			return d, true
		}
	}
	return api.Decl{}, false
}

// family is the definition of Family.
func (m model) family(class, method string) []api.Decl {
	if _, ok := m.lookup(class, method); !ok {
		return nil
	}
	top := ""
	for _, name := range append([]string{class}, m.supers(class)...) {
		if _, ok := m.find(api.DcMethod, name, method); ok {
			top = name
		}
	}
	subs := m.subs(top)
	var l []api.Decl
	for _, d := range m.decls {
		if d.Kind == api.DcMethod && d.Name == method && (d.Owner == top || slices.Contains(subs, d.Owner)) {
			l = append(l, d)
		}
	}
	return l
}

// comesBack reports whether the chain of base names of a class comes back to it.
func (m model) comesBack(class string) bool {
	name := class
	for range m.decls {
		if name = m.baseName(name); name == "" || !m.isDeclared(name) {
			return false
		}
		if name == class {
			return true
		}
	}
	return false
}

// check is the definition of Check.
func (m model) check() (api.Errno, api.Ref) {
	for i, d := range m.decls {
		for _, c := range m.decls[:i] {
			if d.Kind == c.Kind && d.Name == c.Name && (d.Kind == api.DcClass || d.Kind == api.DcMethod && d.Owner == c.Owner) {
				return api.ErrExists, d.At
			}
		}
	}
	for _, d := range m.decls {
		if d.Kind != api.DcClass {
			continue
		}
		if name, at := m.baseOf(d); name != "" && !m.isDeclared(name) {
			return api.ErrBind, at
		}
	}
	for _, d := range m.decls {
		if d.Kind == api.DcClass && m.comesBack(d.Name) {
			return api.ErrCycle, d.At
		}
	}
	return api.OK, api.Ref{}
}

// names returns the texts of all classes and bases, those of all methods, and for each of both two others.
func (m model) names() (classes, methods []string) {
	classes, methods = []string{"", "other"}, []string{"", "other"}
	for _, rows := range m.rows {
		for _, r := range rows {
			switch r.Kind {
			case api.KdClass, api.KdBase:
				classes = append(classes, r.Text)
			case api.KdFunc:
				methods = append(methods, r.Text)
			}
		}
	}
	slices.Sort(classes)
	slices.Sort(methods)
	return slices.Compact(classes), slices.Compact(methods)
}

// wantDefined compares all functions with their definitions, for all names that occur and for others.
func wantDefined(t *testing.T, u []api.Unit) {
	t.Helper()
	m := modelOf(u)
	wantErr, wantAt := m.check()
	if e, at := classes.Check(u); e != wantErr || at != wantAt {
		t.Fatalf("Check = %d, %v, want %d, %v in %v", e, at, wantErr, wantAt, u)
	}
	classNames, methodNames := m.names()
	for _, c := range classNames {
		if got, want := classes.Supers(u, c), m.supers(c); !slices.Equal(got, want) {
			t.Fatalf("Supers(%q) = %q, want %q in %v", c, got, want, u)
		}
		if got, want := classes.Subs(u, c), m.subs(c); !slices.Equal(got, want) {
			t.Fatalf("Subs(%q) = %q, want %q in %v", c, got, want, u)
		}
		for _, f := range methodNames {
			want, wantOk := m.lookup(c, f)
			if got, ok := classes.Lookup(u, c, f); got != want || ok != wantOk {
				t.Fatalf("Lookup(%q, %q) = %v, %t, want %v, %t in %v", c, f, got, ok, want, wantOk, u)
			}
			if got, want := classes.Family(u, c, f), m.family(c, f); !slices.Equal(got, want) {
				t.Fatalf("Family(%q, %q) = %v, want %v in %v", c, f, got, want, u)
			}
		}
	}
}

// anyName returns one of few names, the later ones seldom.
func anyName(r *rand.Rand, l ...string) string {
	return l[min(r.Intn(len(l)), r.Intn(len(l)))]
}

// anyTree returns a tree of nodes of all kinds and of none, mostly classes with bases and methods, that has at most this many levels.
func anyTree(r *rand.Rand, kind, levels int) api.Node {
	usual := map[int][]int{
		api.KdFile:  {api.KdClass, api.KdClass, api.KdClass, api.KdFunc},
		api.KdClass: {api.KdBase, api.KdBase, api.KdFunc, api.KdFunc, api.KdFunc, api.KdClass},
		api.KdFunc:  {api.KdBlock, api.KdClass, api.KdFunc, api.KdParams},
		api.KdBlock: {api.KdClass, api.KdLet, api.KdBase, api.KdFunc},
	}
	n := node(kind, anyName(r, "A", "B", "C", "D", "", "int"))
	if kind == api.KdFunc {
		n.Text = anyName(r, "m", "n", "A", "")
	}
	if r.Intn(3) == 0 {
		n.Gaps = []string{" ", "x"}[:r.Intn(3)]
	}
	for range r.Intn(5) {
		if levels == 1 {
			break
		}
		kid := r.Intn(api.Kinds+4) - 2
		if l := usual[kind]; l != nil && r.Intn(8) > 0 {
			kid = l[r.Intn(len(l))]
		}
		n.Kids = append(n.Kids, anyTree(r, kid, levels-1))
	}
	return n
}

// anyUnits returns units with such trees, some of them broken.
func anyUnits(seed int64) []api.Unit {
	r := rand.New(rand.NewSource(seed))
	var u []api.Unit
	for range 1 + r.Intn(3) {
		u = append(u, api.Unit{Path: anyName(r, "a", "b", "", "/"), Text: anyName(r, "", "class A { }", "fn"), Tree: anyTree(r, api.KdFile, 2+r.Intn(4)), Broken: r.Intn(5) == 0})
	}
	return u
}

// anyProject returns units with classes of different names in any order: most of them have a base class, also such that makes a circle, and seldom one that is not declared; and few repeat a name.
func anyProject(seed int64) []api.Unit {
	r := rand.New(rand.NewSource(seed))
	names := []string{"A", "B", "C", "D", "E", "F", "G", "H"}[:1+r.Intn(8)]
	r.Shuffle(len(names), func(i, j int) { names[i], names[j] = names[j], names[i] })
	u := make([]api.Unit, 1+r.Intn(3))
	withFaults := r.Intn(2)
	often := func(percent int) bool { return r.Intn(100) < percent*withFaults }
	for i, name := range names {
		if often(3) {
			name = names[r.Intn(len(names))]
		}
		baseName := ""
		switch {
		case often(8):
			baseName = "X"
		case often(20):
			baseName = names[r.Intn(len(names))]
		case i > 0 && r.Intn(6) > 0:
			baseName = names[r.Intn(i)]
		}
		methods := []string{"m", "n", "o"}[r.Intn(2) : 1+r.Intn(3)]
		if often(3) {
			methods = append([]string{"m"}, methods...)
		}
		x := &u[r.Intn(len(u))].Tree
		x.Kind = api.KdFile
		x.Kids = slices.Insert(x.Kids, r.Intn(len(x.Kids)+1), class(name, baseName, methods...))
	}
	return u
}

// anyProjects are lists of units with trees of all kinds of nodes, and of classes alone.
func anyProjects() [][]api.Unit {
	var l [][]api.Unit
	for seed := range int64(800) {
		l = append(l, anyUnits(seed), anyProject(seed))
	}
	return l
}

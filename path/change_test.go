package path_test

import (
	"slices"
	"strings"
	"testing"

	"treemerge/api"
	"treemerge/path"
	"treemerge/tree"
)

// The tests of P10.3 to P10.6 and P10.8.

// wantChange checks the results of a function against those of its definition.
func wantChange(t *testing.T, name string, p []int, got api.Node, e api.Errno, want api.Node, wantError api.Errno) {
	t.Helper()
	if e != wantError || !tree.Equal(got, want) {
		t.Fatalf("%s at %v = %v, %d, want %v, %d", name, p, got, e, want, wantError)
	}
}

// everywhere compares a function with its definition at all of these paths, and returns how many changes are right.
func everywhere(t *testing.T, name string, l [][]int, function, definition func(p []int) (api.Node, api.Errno)) int {
	t.Helper()
	right := 0
	for _, p := range l {
		got, e := function(p)
		want, wantError := wellFormed(definition(p))
		wantChange(t, name, p, got, e, want, wantError)
		if e == api.OK {
			right++
		}
	}
	return right
}

// P10.3: Replace at every path with trees of all kinds.
func TestReplaceEverywhere(t *testing.T) {
	for _, n := range samples(t) {
		right := 0
		for _, x := range grafts(t) {
			right += everywhere(t, "Replace", paths(n),
				func(p []int) (api.Node, api.Errno) { return path.Replace(n, p, x) },
				func(p []int) (api.Node, api.Errno) { return replaced(n, p, x) })
		}
		if right < 2*tree.Size(n) {
			t.Errorf("in a tree of %d nodes, only %d changes have been right", tree.Size(n), right)
		}
	}
}

// P10.4: Insert at every insertion path with trees of all kinds.
func TestInsertEverywhere(t *testing.T) {
	for _, n := range samples(t) {
		right := 0
		for _, x := range grafts(t) {
			right += everywhere(t, "Insert", insertionPaths(n),
				func(p []int) (api.Node, api.Errno) { return path.Insert(n, p, x) },
				func(p []int) (api.Node, api.Errno) { return inserted(n, p, x) })
		}
		if tree.Size(n) > 1 && right < tree.Size(n) {
			t.Errorf("in a tree of %d nodes, only %d changes have been right", tree.Size(n), right)
		}
	}
}

// P10.5: Remove at every path.
func TestRemoveEverywhere(t *testing.T) {
	for _, n := range samples(t) {
		right := everywhere(t, "Remove", paths(n),
			func(p []int) (api.Node, api.Errno) { return path.Remove(n, p) },
			func(p []int) (api.Node, api.Errno) { return removed(n, p) })
		if tree.Size(n) > 1 && right == 0 {
			t.Errorf("in a tree of %d nodes, no change has been right", tree.Size(n))
		}
	}
}

// P10.3 to P10.5: paths that lead to no node return ErrNone, whatever the trees are.
func TestChangesNowhere(t *testing.T) {
	for _, n := range append(samples(t), shapes(4)...) {
		for _, p := range wrongPaths(n) {
			for _, x := range []api.Node{number("1"), stmt(t, "f();"), {}, number("x")} {
				got, e := path.Replace(n, p, x)
				wantChange(t, "Replace", p, got, e, api.Node{}, api.ErrNone)
				if _, wantError := inserted(n, p, x); wantError == api.ErrNone {
					got, e = path.Insert(n, p, x)
					wantChange(t, "Insert", p, got, e, api.Node{}, api.ErrNone)
				}
			}
			got, e := path.Remove(n, p)
			wantChange(t, "Remove", p, got, e, api.Node{}, api.ErrNone)
		}
	}
}

// P10.4, P10.5: the empty path is no insertion path, and the root is not removed, whatever the trees are.
func TestChangesAtRoot(t *testing.T) {
	for _, n := range append(samples(t), shapes(3)...) {
		for _, p := range [][]int{nil, {}} {
			for _, x := range grafts(t) {
				got, e := path.Insert(n, p, x)
				wantChange(t, "Insert", p, got, e, api.Node{}, api.ErrNone)
			}
			got, e := path.Remove(n, p)
			wantChange(t, "Remove", p, got, e, api.Node{}, api.ErrNone)
		}
	}
}

// P10.3: at the root, Replace returns every tree that is well-formed, whatever it replaces.
func TestReplaceRoot(t *testing.T) {
	for _, n := range append(samples(t), api.Node{}, number("x"), chain(1000)) {
		for _, p := range [][]int{nil, {}} {
			for _, x := range grafts(t) {
				want, wantError := wellFormed(x, api.OK)
				got, e := path.Replace(n, p, x)
				wantChange(t, "Replace", p, got, e, want, wantError)
			}
		}
	}
}

// P10.3: a node that is replaced by itself leaves the tree equal.
func TestReplaceByItself(t *testing.T) {
	for _, n := range samples(t) {
		for _, p := range paths(n) {
			x, _ := path.Get(n, p)
			got, e := path.Replace(n, p, x)
			wantChange(t, "Replace by itself", p, got, e, n, api.OK)
		}
	}
}

// P10.3 to P10.5: the examples of the chapter.
func TestExamples(t *testing.T) {
	got, e := path.Replace(expr(t, "1 + 2"), []int{0}, expr(t, "3 * 4"))
	wantChange(t, "Replace", []int{0}, got, e, expr(t, "3 * 4 + 2"), api.OK)
	got, e = path.Replace(expr(t, "1 * 2"), []int{0}, expr(t, "3 + 4"))
	wantChange(t, "Replace", []int{0}, got, e, api.Node{}, api.ErrKind)
	a, b := withGaps(node(api.KdName, "a"), ""), node(api.KdName, "b")
	got, e = path.Insert(expr(t, "f(a)"), []int{1}, b)
	wantChange(t, "Insert", []int{1}, got, e, node(api.KdCall, "f", a, b), api.OK)
	got, e = path.Remove(stmt(t, "while a { f();\n g() ; }"), []int{1, 0})
	wantChange(t, "Remove", []int{1, 0}, got, e, stmt(t, "while a {\n g() ; }"), api.OK)
}

// numbers returns the path that s writes with blanks.
func numbers(s string) []int {
	var p []int
	for _, f := range strings.Fields(s) {
		p = append(p, int(f[0]-'0'))
	}
	return p
}

// P10.4, P10.5: the gaps of a node remain, unless it has another number of own tokens then.
func TestGapsOfChangedNode(t *testing.T) {
	for _, x := range []struct{ source, add, more, remove, less string }{
		{source: "f ( )", add: "0", more: "| | "},
		{source: "f ( a)", add: "1", more: "none", remove: "0", less: "| |"},
		{source: "f ( a , b\t)", add: "0", more: "none", remove: "1", less: "none"},
		{source: "f(a, b, c)", add: "2", more: "none", remove: "2", less: "none"},
		{source: "a . m ( )", add: "1", more: " | | | ", remove: "0", less: "error"},
		{source: "a . m ( )", add: "0", more: " | | | "},
		{source: "a . m ( b )", add: "0", more: "none", remove: "1", less: " | | | "},
		{source: "a . m ( b )", add: "2", more: "none", remove: "0", less: " | | | "},
		{source: "a . m ( b , c )", add: "3", more: "none", remove: "2", less: "none"},
		{source: "a . m ( b , c )", add: "0", more: "none", remove: "0", less: "none"},
		{source: "a . m ( b , c , d )", add: "1", more: "none", remove: "3", less: "none"},
	} {
		n := expr(t, x.source)
		if x.add != "" {
			got, e := path.Insert(n, numbers(x.add), node(api.KdName, "x"))
			wantGaps(t, x.source+" inserted "+x.add, got, e, nil, x.more)
		}
		if x.remove != "" {
			got, e := path.Remove(n, numbers(x.remove))
			wantGaps(t, x.source+" removed "+x.remove, got, e, nil, x.less)
		}
	}
}

// wantGaps checks the gaps of the node at the path, joined by bars; or that there are none, or an error.
func wantGaps(t *testing.T, name string, n api.Node, e api.Errno, p []int, want string) {
	t.Helper()
	if want == "error" {
		if e != api.ErrKind || !isZero(n) {
			t.Errorf("%s: %v, %d", name, n, e)
		}
		return
	}
	at, _ := path.Get(n, p)
	if e != api.OK || len(at.Gaps) == 0 && want != "none" || len(at.Gaps) > 0 && strings.Join(at.Gaps, "|") != want {
		t.Errorf("%s: the gaps %q, %d, want %q", name, at.Gaps, e, want)
	}
}

// P10.3 to P10.5: the gaps of the nodes of other kinds.
func TestGapsOfProgram(t *testing.T) {
	const source = "class A: B // A\n{ fn m ( ) int { } }\nfn f ( a int , b int ) int { if a { } else { } if b { }\n} // end\n"
	n := file(t, source)
	function, parameter := n.Kids[1], n.Kids[1].Kids[0].Kids[0]
	block := n.Kids[0].Kids[1].Kids[2]
	for _, x := range []struct {
		do   string
		path string
		add  api.Node
		at   string
		want string
	}{
		{do: "insert", path: "0", add: function, at: "", want: " // end\n"},
		{do: "insert", path: "2", add: function, at: "", want: " // end\n"},
		{do: "remove", path: "1", at: "", want: " // end\n"},
		{do: "remove", path: "0", at: "", want: " // end\n"},
		{do: "replace", path: "0", add: function, at: "", want: " // end\n"},
		{do: "insert", path: "0 1", add: function, at: "0", want: "| | // A\n| "},
		{do: "insert", path: "0 2", add: function, at: "0", want: "| | // A\n| "},
		{do: "remove", path: "0 1", at: "0", want: "| | // A\n| "},
		{do: "replace", path: "0 0", add: node(api.KdBase, ""), at: "0", want: "| | // A\n| "},
		{do: "insert", path: "1 0 2", add: parameter, at: "1 0", want: "none"},
		{do: "remove", path: "1 0 1", at: "1 0", want: "none"},
		{do: "replace", path: "1 0 1", add: parameter, at: "1 0", want: " | | "},
		{do: "insert", path: "0 1 0 0", add: parameter, at: "0 1 0", want: " | "},
		{do: "insert", path: "0 1 2 0", add: stmt(t, " a = 1;"), at: "0 1 2", want: " | "},
		{do: "remove", path: "1 2 0", at: "1 2", want: " |\n"},
		{do: "remove", path: "1 2 1", at: "1 2", want: " |\n"},
		{do: "remove", path: "1 2 0 2 0", at: "1 2 0 2", want: "none"},
		{do: "insert", path: "1 2 1 2 0", add: block, at: "1 2 1 2", want: "none"},
		{do: "replace", path: "1 2 0 2 0", add: block, at: "1 2 0 2", want: " "},
		{do: "replace", path: "1 2", add: block, at: "1", want: "\n| "},
		{do: "remove", path: "1 2", at: "1", want: "error"},
	} {
		p := numbers(x.path)
		var got api.Node
		var e api.Errno
		switch x.do {
		case "insert":
			got, e = path.Insert(n, p, x.add)
		case "remove":
			got, e = path.Remove(n, p)
		default:
			got, e = path.Replace(n, p, x.add)
		}
		wantGaps(t, x.do+" "+x.path, got, e, numbers(x.at), x.want)
	}
}

// begins reports whether a path begins with another one.
func begins(p, with []int) bool {
	return len(p) >= len(with) && slices.Equal(p[:len(with)], with)
}

// P10.6: after Replace, the path leads to x, and the paths beside it lead to what they led to.
func TestPathReplaces(t *testing.T) {
	for _, n := range samples(t) {
		for _, x := range grafts(t) {
			for _, p := range paths(n) {
				got, e := path.Replace(n, p, x)
				if e != api.OK {
					continue
				}
				if at, e := path.Get(got, p); e != api.OK || !tree.Equal(at, x) {
					t.Fatalf("%v leads to %v, %d, want %v", p, at, e, x)
				}
				wantBeside(t, n, got, p)
			}
		}
	}
}

// wantBeside checks that the paths that neither p begins with nor that begin with p lead to equal trees in both trees.
func wantBeside(t *testing.T, before, after api.Node, p []int) {
	t.Helper()
	for _, q := range append(paths(before), paths(after)...) {
		if begins(p, q) || begins(q, p) {
			continue
		}
		a, _ := path.Get(before, q)
		b, e := path.Get(after, q)
		if e != api.OK || !tree.Equal(a, b) {
			t.Fatalf("beside %v, %v leads to %v, want %v", p, q, b, a)
		}
	}
}

// P10.8: a node that was inserted is removed again.
func TestInsertAndRemove(t *testing.T) {
	for _, n := range samples(t) {
		for _, x := range grafts(t) {
			for _, p := range insertionPaths(n) {
				more, e := path.Insert(n, p, x)
				if e != api.OK {
					continue
				}
				if at, e := path.Get(more, p); e != api.OK || !tree.Equal(at, x) {
					t.Fatalf("%v leads to %v, %d, want %v", p, at, e, x)
				}
				if less, e := path.Remove(more, p); e != api.OK || !tree.Same(less, n) {
					t.Fatalf("inserted at %v, and removed again: %v, %d", p, less, e)
				}
			}
		}
	}
}

// P10.8: a node that was replaced is put back. As no number of own tokens changes, the gaps are as before, too.
func TestReplaceAndPutBack(t *testing.T) {
	for _, n := range samples(t) {
		for _, x := range grafts(t) {
			for _, p := range paths(n) {
				other, e := path.Replace(n, p, x)
				if e != api.OK {
					continue
				}
				old, _ := path.Get(n, p)
				if back, e := path.Replace(other, p, old); e != api.OK || !tree.Equal(back, n) {
					t.Fatalf("replaced at %v, and put back: %v, %d", p, back, e)
				}
			}
		}
	}
}

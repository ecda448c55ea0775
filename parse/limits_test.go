package parse_test

import (
	"reflect"
	"slices"
	"strings"
	"testing"

	"treemerge/api"
	"treemerge/tree"
)

// P9.1, P9.2, P9.3: sources of MaxText bytes are read, longer ones are not, whatever they contain.
func TestTextLimit(t *testing.T) {
	for _, x := range []struct {
		form
		before, after string
		want          api.Errno
		at            int // the offset of the error from the end of the gap
	}{
		{file, "", "", api.OK, 0},
		{file, "const K =", "1;", api.OK, 0},
		{file, "fn f() int { }", "", api.OK, 0},
		{file, "//", "\n", api.OK, 0},
		{file, "const K =", ";", api.ErrSyntax, 0},
		{file, "//", "", api.ErrSyntax, -api.MaxText},
		{expr, "", "a", api.OK, 0},
		{expr, "f(", ")", api.OK, 0},
		{expr, "a", "", api.ErrSyntax, 0},
		{expr, "a", "b", api.ErrSyntax, 0},
		{expr, "", "01", api.ErrSyntax, 0},
		{stmt, "", "a;", api.OK, 0},
		{stmt, "return", "a;", api.OK, 0},
		{stmt, "a;", "", api.ErrSyntax, 0},
		{stmt, "a", "b", api.ErrSyntax, 0},
		{stmt, "a", "#", api.ErrSyntax, 0},
	} {
		for size := api.MaxText - 1; size <= api.MaxText+2; size++ {
			gap := strings.Repeat(" ", size-len(x.before)-len(x.after))
			s := x.before + gap + x.after
			at := max(0, len(x.before)+len(gap)+x.at)
			switch {
			case size > api.MaxText:
				wantError(t, x.form, s, api.ErrLimit, 0)
			case x.want == api.OK:
				if n, e, at := x.read(s); e != api.OK || at != 0 || isZero(n) {
					t.Errorf("%s(%s) of %d bytes = %d, %d", x.symbol, short(s), size, e, at)
				}
			case x.want == api.ErrSyntax:
				wantError(t, x.form, s, api.ErrSyntax, at)
			}
		}
	}
	for _, f := range forms() {
		for _, s := range []string{"#", "01 ", "x", "(", "\n", "//"} {
			wantError(t, f, strings.Repeat(s, api.MaxText+1), api.ErrLimit, 0)
		}
	}
}

// sized returns an expression of k nodes: a call whose arguments are about equally large, or a name.
func sized(k int) string {
	if k == 1 {
		return "a"
	}
	k--
	var args []string
	for parts := min(k, api.MaxArgs); parts > 0; parts-- {
		args = append(args, sized(k/parts))
		k -= k / parts
	}
	return "f(" + strings.Join(args, ",") + ")"
}

// limited is a source by a number n: if that is at most most, it is read, and otherwise a limit is exceeded. If the source is cut at its end, an error of the syntax comes first.
type limited struct {
	form
	name   string
	most   int
	source func(n int) string
}

// times returns n of the parts, with a separator between each two.
func times(n int, part, separator string) string {
	return strings.Join(slices.Repeat([]string{part}, n), separator)
}

// around returns a source with n parts on each side.
func around(n int, left, inside, right string) string {
	return strings.Repeat(left, n) + inside + strings.Repeat(right, n)
}

// nodeLimits are sources of n nodes.
func nodeLimits() []limited {
	return []limited{
		{expr, "nodes of calls", api.MaxNodes, sized},
		{expr, "nodes within a send", api.MaxNodes, func(n int) string { return sized(n-2) + ".m(a)" }},
		{expr, "nodes of an operator", api.MaxNodes, func(n int) string { return sized(1000) + "+" + sized(n-1001) }},
		{stmt, "nodes of a statement", api.MaxNodes, func(n int) string { return "x = " + sized(n-1) + ";" }},
		{stmt, "nodes of an if", api.MaxNodes, func(n int) string { return "if " + sized(n-4) + " { } else { }" }},
		{stmt, "nodes of an if without else", api.MaxNodes, func(n int) string { return "if " + sized(n-3) + " { }" }},
		{stmt, "nodes of a block", api.MaxNodes, func(n int) string { return "while a { " + strings.Repeat(sized(20)+";", 150) + sized(n-3154) + "; }" }},
		{file, "nodes of a constant", api.MaxNodes, func(n int) string { return "const K = " + sized(n-2) + ";" }},
		{file, "nodes of constants", api.MaxNodes, func(n int) string {
			return strings.Repeat("const K = "+sized(18)+";", 199) + "const K = " + sized(n-3783) + ";"
		}},
		{file, "nodes of classes", api.MaxNodes, func(n int) string {
			return strings.Repeat("class A { }", 100) + "class A : B { fn f() int { " + sized(n-208) + "; } }"
		}},
		{file, "nodes of parameters", api.MaxNodes, func(n int) string {
			return strings.Repeat("fn f("+times(16, "a int", ",")+") int { }", 100) + "const K = " + sized(n-3602) + ";"
		}},
	}
}

// levelLimits are sources whose trees have n levels and more; most leaves room for the levels around them.
func levelLimits() []limited {
	return []limited{
		{expr, "levels of parentheses", 59, func(n int) string { return around(n, "(", "a", ")") }},
		{expr, "levels of signs", 59, func(n int) string { return strings.Repeat("-", n) + "a" }},
		{expr, "levels of sends", 59, func(n int) string { return "a" + strings.Repeat(".m()", n) }},
		{expr, "levels of calls", 59, func(n int) string { return around(n, "f(", "a", ")") }},
		{expr, "levels of calls without arguments", 60, func(n int) string { return around(n-1, "f(", "f()", ")") }},
		{expr, "levels of arguments", 59, func(n int) string { return around(n, "a.m(b, ", "c", ")") }},
		{expr, "levels of operators", 59, func(n int) string { return "a" + strings.Repeat(" + a", n) }},
		{expr, "levels of operators on the right", 29, func(n int) string { return around(n, "a - (", "-a", ")") }},
		{stmt, "levels of a let", 58, func(n int) string { return "let x = " + around(n, "(", "a", ")") + ";" }},
		{stmt, "levels of loops", 29, func(n int) string { return around(n, "while a { ", "b;", " }") }},
		{stmt, "levels of branches", 29, func(n int) string { return around(n, "if a { ", "b;", " }") }},
		{stmt, "levels of branches on the right", 19, func(n int) string { return around(n, "if a { } else { ", "-b;", " }") }},
		{file, "levels of a constant", 57, func(n int) string { return "const K = " + strings.Repeat("!", n) + "true;" }},
		{file, "levels of a function", 55, func(n int) string { return "fn f() int { return " + around(n, "(", "a", ")") + "; }" }},
		{file, "levels of a method", 54, func(n int) string { return "class A { fn f() int { return " + around(n, "(", "a", ")") + "; } }" }},
	}
}

// kidLimits are sources with a node that has n kids of a sort.
func kidLimits() []limited {
	return []limited{
		{file, "constants", api.MaxKids, func(n int) string { return strings.Repeat("const K = 1;", n) }},
		{file, "functions", api.MaxKids, func(n int) string { return strings.Repeat("fn f() int { }", n) }},
		{file, "classes", api.MaxKids, func(n int) string { return strings.Repeat("class A { }", n) }},
		{file, "methods", api.MaxKids - 1, func(n int) string { return "class A { " + strings.Repeat("fn f() int { } ", n) + "}" }},
		{file, "statements of a function", api.MaxKids, func(n int) string { return "fn f() int { " + strings.Repeat("a; ", n) + "}" }},
		{file, "parameters", api.MaxArgs, func(n int) string { return "fn f(" + times(n, "a int", ", ") + ") int { }" }},
		{file, "parameters of a method", api.MaxArgs, func(n int) string { return "class A { fn f(" + times(n, "a int", ", ") + ") int { } }" }},
		{stmt, "statements of a loop", api.MaxKids, func(n int) string { return "while a { " + strings.Repeat("x = 1; ", n) + "}" }},
		{stmt, "statements of an else", api.MaxKids, func(n int) string { return "if a { } else { " + strings.Repeat("a; ", n) + "}" }},
		{expr, "arguments", api.MaxArgs, func(n int) string { return "f(" + times(n, "a", ", ") + ")" }},
		{expr, "arguments of a send", api.MaxArgs, func(n int) string { return "a.m(" + times(n, "a", ", ") + ")" }},
		{expr, "arguments within", api.MaxArgs, func(n int) string { return "(-f(" + times(n, "g(a)", ",") + ") + b).m(c)" }},
	}
}

// P9.1, P9.2, P9.3: trees of the greatest numbers of nodes, levels and kids, and beyond them. A limit comes after all errors of the syntax.
func TestTreeLimits(t *testing.T) {
	for _, x := range slices.Concat(nodeLimits(), levelLimits(), kidLimits()) {
		for _, n := range []int{x.most - 1, x.most} {
			s := x.source(n)
			got, e, at := x.read(s)
			if e != api.OK || at != 0 || isZero(got) {
				t.Errorf("%s, %d: %d, %d", x.name, n, e, at)
			}
			if size := tree.Size(got); strings.HasPrefix(x.name, "nodes") && size != n {
				t.Errorf("%s, %d: there are %d nodes", x.name, n, size)
			}
			if height := tree.Height(got); n == x.most && strings.HasPrefix(x.name, "levels") && height != api.MaxDepth {
				t.Errorf("%s, %d: there are %d levels", x.name, n, height)
			}
		}
		for _, n := range []int{x.most + 1, x.most + 2, x.most + 100} {
			s := x.source(n)
			wantError(t, x.form, s, api.ErrLimit, 0)
			wantError(t, x.form, s+" )", api.ErrSyntax, len(s)+1)
			wantError(t, x.form, s+" ) 01", api.ErrSyntax, len(s)+3)
			wantError(t, x.form, s[:len(s)-1], api.ErrSyntax, len(s)-1)
			if x.symbol != "File" {
				wantError(t, x.form, s+" ", api.ErrSyntax, len(s)+1)
			}
		}
	}
}

// R1, R8: sources of MaxText bytes that are nested as deep as they can be.
func TestDeepSources(t *testing.T) {
	for _, x := range []struct {
		form
		source string
		at     int // the offset of an error of the syntax; -1 for that of a limit
	}{
		{expr, strings.Repeat("(", api.MaxText), api.MaxText},
		{expr, strings.Repeat("(", api.MaxText/2) + strings.Repeat(")", api.MaxText/2), api.MaxText / 2},
		{expr, around(api.MaxText/2-1, "(", "a", ")"), -1},
		{expr, around(api.MaxText/2-1, "(", "a", ")") + ")", api.MaxText - 1},
		{expr, strings.Repeat("-", api.MaxText), api.MaxText},
		{expr, strings.Repeat("-", api.MaxText-1) + "a", -1},
		{expr, strings.Repeat("f(", api.MaxText/2), api.MaxText},
		{expr, "a" + strings.Repeat("+a", api.MaxText/2-1), -1},
		{expr, "a" + strings.Repeat(".m()", api.MaxText/4-1), -1},
		{stmt, strings.Repeat("if a{", api.MaxText/5), api.MaxText / 5 * 5},
		{stmt, around(api.MaxText/7, "if a{", "", "}"), -1},
		{stmt, strings.Repeat("while a{", api.MaxText/8), api.MaxText},
		{file, "fn f()int{" + strings.Repeat("if a{}else{", 5000), 55010},
		{file, strings.Repeat("{", api.MaxText), 0},
		{file, strings.Repeat("class A{}", api.MaxText/9), -1},
		{file, strings.Repeat("fn f(", api.MaxText/5), 5},
	} {
		if x.at < 0 {
			wantError(t, x.form, x.source, api.ErrLimit, 0)
		} else {
			wantError(t, x.form, x.source, api.ErrSyntax, x.at)
		}
	}
}

// R1: no bytes, in whatever order, make a function panic.
func TestAnyBytes(t *testing.T) {
	g := newGrower(7)
	parts := append(vocabulary(), " ", "\n", "//", "// c\n", "\x00", "\xff", "é", "01", "==", strings.Repeat("x", 33))
	for range 20000 {
		var b strings.Builder
		for range g.Intn(10) {
			b.WriteString(parts[g.Intn(len(parts))])
		}
		for _, f := range forms() {
			n, e, at := f.read(b.String())
			switch e {
			case api.OK:
				if at != 0 || gapless(n) != 0 {
					t.Fatalf("%s(%q) = %s, %d", f.symbol, b.String(), show(n), at)
				}
			case api.ErrSyntax:
				if !isZero(n) || at < 0 || at > b.Len() {
					t.Fatalf("%s(%q) = %s, %d, %d", f.symbol, b.String(), show(n), e, at)
				}
			default:
				t.Fatalf("%s(%q) = %s, %d, %d", f.symbol, b.String(), show(n), e, at)
			}
		}
	}
}

// clone returns the tree in new memory.
func clone(n api.Node) api.Node {
	n.Gaps = slices.Clone(n.Gaps)
	n.Kids = slices.Clone(n.Kids)
	for k, kid := range n.Kids {
		n.Kids[k] = clone(kid)
	}
	return n
}

// extend appends to all lists of a tree, without keeping the results.
func extend(n api.Node) {
	_ = append(n.Gaps, "spoiled", "spoiled")
	_ = append(n.Kids, api.Node{Text: "spoiled"}, api.Node{Text: "spoiled"})
	for _, kid := range n.Kids {
		extend(kid)
	}
}

// spoil changes all that a tree contains.
func spoil(n api.Node) {
	for i := range n.Gaps {
		n.Gaps[i] = "spoiled"
	}
	for k, kid := range n.Kids {
		spoil(kid)
		n.Kids[k] = api.Node{Text: "spoiled"}
	}
}

// R3: results are new memory, no two parts of which are shared.
func TestMemory(t *testing.T) {
	for _, x := range programs(t, 8, 600) {
		n, _, _ := x.read(x.source)
		want := clone(n)
		if extend(n); !reflect.DeepEqual(n, want) {
			t.Fatalf("two lists of the tree of %s share memory", short(x.source))
		}
		for k, kid := range n.Kids {
			spoil(kid)
			if !reflect.DeepEqual(n.Kids[k+1:], want.Kids[k+1:]) || !slices.Equal(n.Gaps, want.Gaps) {
				t.Fatalf("two parts of the tree of %s share memory", short(x.source))
			}
		}
		spoil(n)
		wantTree(t, x.form, x.source, want)
	}
}

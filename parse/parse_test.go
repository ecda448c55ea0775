package parse_test

import (
	"slices"
	"strings"
	"testing"

	"treemerge/api"
	"treemerge/grammar"
	"treemerge/print"
	"treemerge/tree"
)

var (
	file = forms()[0]
	expr = forms()[1]
	stmt = forms()[2]
)

// P9.1, P9.2, P9.3: the examples of the chapter.
func TestExamples(t *testing.T) {
	wantTree(t, file, "", api.Node{Kind: api.KdFile, Gaps: []string{""}})
	wantTree(t, file, " // x\n", api.Node{Kind: api.KdFile, Gaps: []string{" // x\n"}})
	wantError(t, file, "// x", api.ErrSyntax, 0)
	wantShape(t, expr, "a - b * 2 - c", "binary -(binary -(name a, binary *(name b, int 2)), name c)")
	if n, _, _ := expr.read("a - b * 2 - c"); !slices.Equal(n.Gaps, []string{" "}) {
		t.Errorf("the gaps of the operator are %q", n.Gaps)
	}
	wantError(t, expr, "a < b < c", api.ErrSyntax, 6)
	wantShape(t, expr, " f(x).m( )", "send m(call f(name x))")
	if n, _, _ := expr.read(" f(x).m( )"); showGaps(n) != "[||| ][ ||][]" {
		t.Errorf("the gaps of a call and a send are %q", showGaps(n))
	}
	wantError(t, expr, "a ", api.ErrSyntax, 2)
	wantShape(t, expr, "-a.m()", "unary -(send m(name a))")
	wantShape(t, stmt, "x = y;", "set x(name y)")
	wantShape(t, stmt, "x == y;", "do(binary ==(name x, name y))")
	wantShape(t, stmt, "if a { }", "if(name a, block, else)")
	if n, _, _ := stmt.read("if a { }"); showGaps(n) != "[][ ][ | ][]" || len(n.Kids[2].Gaps) != 0 {
		t.Errorf("the gaps of an if without else are %q", showGaps(n))
	}
	wantError(t, stmt, "if a", api.ErrSyntax, 4)
	wantError(t, file, "fn f() int { return 1 }", api.ErrSyntax, 22)
	wantShape(t, file, "class A : B { fn m(a int, b A) bool { return true; } }",
		"file(class A(base B, fn m(params(param a(type int), param b(type A)), type bool, block(return(bool true)))))")
	// Examples 1 and 2 of the document.
	wantError(t, file, "fn f(a int) int { return a; } // id", api.ErrSyntax, 30)
	wantShape(t, file, "fn f(a int) int { return a; } // id\n", "file(fn f(params(param a(type int)), type int, block(return(name a))))")
	wantShape(t, expr, "1 + 2 * 3", "binary +(int 1, binary *(int 2, int 3))")
	wantShape(t, expr, "(1 + 2) * 3", "binary *(paren(binary +(int 1, int 2)), int 3)")
}

// P9.1: declarations of all forms.
func TestDeclarations(t *testing.T) {
	for s, want := range map[string]string{
		"const K=1;":                 "const K(int 1)",
		"const int = true | !false;": "const int(binary |(bool true, unary !(bool false)))",
		"fn f()int{}":                "fn f(params, type int, block)",
		"fn f(a int) A { }":          "fn f(params(param a(type int)), type A, block)",
		"fn f(a int, b bool, c C) f { return a;}": "fn f(params(param a(type int), param b(type bool), param c(type C)), type f, block(return(name a)))",
		"class A{}":                    "class A(base)",
		"class A : B { }":              "class A(base B)",
		"class A : A { fn A() A { } }": "class A(base A, fn A(params, type A, block))",
		"class A { fn m() int { } fn n(a A) int { a.m(); } fn m() int { } }": "class A(base, fn m(params, type int, block), fn n(params(param a(type A)), type int, block(do(send m(name a)))), fn m(params, type int, block))",
	} {
		wantShape(t, file, s, "file("+want+")")
		wantShape(t, file, s+"const c = 2;"+s, "file("+want+", const c(int 2), "+want+")")
	}
}

// P9.3: statements of all forms, alone and in a block.
func TestStatements(t *testing.T) {
	for s, want := range map[string]string{
		"let a=1;":                           "let a(int 1)",
		"let int = a == b;":                  "let int(binary ==(name a, name b))",
		"x=y;":                               "set x(name y)",
		"x = x == y;":                        "set x(binary ==(name x, name y))",
		"x==y;":                              "do(binary ==(name x, name y))",
		"x;":                                 "do(name x)",
		"x();":                               "do(call x)",
		"x.m();":                             "do(send m(name x))",
		"x - 1;":                             "do(binary -(name x, int 1))",
		"1;":                                 "do(int 1)",
		"self;":                              "do(self self)",
		"self == a;":                         "do(binary ==(self self, name a))",
		"true == a;":                         "do(binary ==(bool true, name a))",
		"(x) == y;":                          "do(binary ==(paren(name x), name y))",
		"-x;":                                "do(unary -(name x))",
		"!x;":                                "do(unary !(name x))",
		"new A();":                           "do(new A)",
		"new A().m();":                       "do(send m(new A))",
		"return x;":                          "return(name x)",
		"return(x);":                         "return(paren(name x))",
		"return-x;":                          "return(unary -(name x))",
		"if a{}":                             "if(name a, block, else)",
		"if a{}else{}":                       "if(name a, block, else(block))",
		"if a { b; } else { c; d; }":         "if(name a, block(do(name b)), else(block(do(name c), do(name d))))",
		"if a { if b { } else { } }":         "if(name a, block(if(name b, block, else(block))), else)",
		"if a { if b { } } else { }":         "if(name a, block(if(name b, block, else)), else(block))",
		"if a { } else { if b { } }":         "if(name a, block, else(block(if(name b, block, else))))",
		"if(a){}":                            "if(paren(name a), block, else)",
		"if a < b { x = 1; }":                "if(binary <(name a, name b), block(set x(int 1)), else)",
		"while a{}":                          "while(name a, block)",
		"while !a { a = f(a); return 1; }":   "while(unary !(name a), block(set a(call f(name a)), return(int 1)))",
		"while a { while b { } let c = 1; }": "while(name a, block(while(name b, block), let c(int 1)))",
	} {
		wantShape(t, stmt, s, want)
		wantShape(t, file, "fn f() int {"+s+"a;"+s+"}", "file(fn f(params, type int, block("+want+", do(name a), "+want+")))")
	}
}

// operands are expressions of the level 7, as sources and as show writes them.
func operands() [][2]string {
	return [][2]string{
		{"1", "int 1"},
		{"true", "bool true"},
		{"false", "bool false"},
		{"a", "name a"},
		{"self", "self self"},
		{"new A()", "new A"},
		{"f()", "call f"},
		{"f(a, 1)", "call f(name a, int 1)"},
		{"f(g(), a | b, (c), -d)", "call f(call g, binary |(name a, name b), paren(name c), unary -(name d))"},
		{"(a)", "paren(name a)"},
		{"((a + b))", "paren(paren(binary +(name a, name b)))"},
		{"a.m()", "send m(name a)"},
		{"a.m(b)", "send m(name a, name b)"},
		{"a.m().n(1, self, b < c)", "send n(send m(name a), int 1, self self, binary <(name b, name c))"},
		{"int.bool()", "send bool(name int)"},
	}
}

// P9.2: each operand alone, behind - and !, as a receiver, in parentheses and as an argument.
func TestOperands(t *testing.T) {
	for _, x := range operands() {
		s, want := x[0], x[1]
		wantShape(t, expr, s, want)
		wantShape(t, expr, "("+s+")", "paren("+want+")")
		wantShape(t, expr, "-"+s, "unary -("+want+")")
		wantShape(t, expr, "! "+s, "unary !("+want+")")
		wantShape(t, expr, "-!-"+s, "unary -(unary !(unary -("+want+")))")
		wantShape(t, expr, s+".m()", "send m("+want+")")
		wantShape(t, expr, s+".m(a).n(b, "+s+")", "send n(send m("+want+", name a), name b, "+want+")")
		wantShape(t, expr, "-"+s+".m(-a)", "unary -(send m("+want+", unary -(name a)))")
		wantShape(t, expr, "(-"+s+").m()", "send m(paren(unary -("+want+")))")
		wantShape(t, expr, "f("+s+")", "call f("+want+")")
		wantShape(t, expr, "f(b, "+s+")", "call f(name b, "+want+")")
		for _, operator := range operators() {
			wantShape(t, expr, s+operator+s, "binary "+operator+"("+want+", "+want+")")
			wantShape(t, expr, "-"+s+operator+"!"+s, "binary "+operator+"(unary -("+want+"), unary !("+want+"))")
			wantShape(t, expr, "-("+s+operator+s+")", "unary -(paren(binary "+operator+"("+want+", "+want+")))")
			wantShape(t, expr, s+operator+s+".m()", "binary "+operator+"("+want+", send m("+want+"))")
		}
	}
}

// operators returns all binary operators; levels, those that DOC.md gives them.
func operators() []string { return strings.Fields("| & == < + - * /") }

var levels = map[string]int{"|": 1, "&": 2, "==": 3, "<": 3, "+": 4, "-": 4, "*": 5, "/": 5}

// grouped writes the expression of operands with operators between them: the last operator of the lowest level is that of the root.
func grouped(operands, between []string) string {
	if len(between) == 0 {
		return operands[0]
	}
	root := 0
	for i, operator := range between {
		if levels[operator] <= levels[between[root]] {
			root = i
		}
	}
	return "binary " + between[root] + "(" + grouped(operands[:root+1], between[:root]) + ", " + grouped(operands[root+1:], between[root+1:]) + ")"
}

// repeated returns the index of the first operator that compares and follows another one that does, with none of a lower level between them; or -1.
func repeated(between []string) int {
	compared := false
	for i, operator := range between {
		if levels[operator] == 3 && compared {
			return i
		}
		compared = levels[operator] == 3 || compared && levels[operator] > 3
	}
	return -1
}

// P9.2: up to four operators of all levels beside each other.
func TestOperators(t *testing.T) {
	var try func(between []string)
	try = func(between []string) {
		source, at := "a0", []int{}
		names := []string{"name a0"}
		for i, operator := range between {
			name := "a" + string(rune('1'+i))
			at = append(at, len(source)+1)
			source += " " + operator + " " + name
			names = append(names, "name "+name)
		}
		if i := repeated(between); i >= 0 {
			wantError(t, expr, source, api.ErrSyntax, at[i])
		} else {
			wantShape(t, expr, source, grouped(names, between))
		}
		if len(between) < 4 {
			for _, operator := range operators() {
				try(append(between[:len(between):len(between)], operator))
			}
		}
	}
	try(nil)
}

// P9.2: two operators with parentheses on the left and on the right.
func TestOperatorsInParentheses(t *testing.T) {
	for _, x := range operators() {
		for _, y := range operators() {
			wantShape(t, expr, "(a"+x+"b)"+y+"c", "binary "+y+"(paren(binary "+x+"(name a, name b)), name c)")
			wantShape(t, expr, "a"+x+"(b"+y+"c)", "binary "+x+"(name a, paren(binary "+y+"(name b, name c)))")
			wantShape(t, expr, "f(a"+x+"b)"+y+"c", "binary "+y+"(call f(binary "+x+"(name a, name b)), name c)")
			wantShape(t, expr, "a"+x+"b.m(c"+y+"d)", "binary "+x+"(name a, send m(name b, binary "+y+"(name c, name d)))")
		}
	}
	for s, at := range map[string]int{
		"a == b == c":                7,
		"a < b == c":                 6,
		"a == b < c":                 7,
		"a < b + c < d":              10,
		"a + b < c * d == e":         14,
		"a | b < c < d":              10,
		"a & b | c == d & e < f < g": 23,
		"a < -b < c":                 7,
		"a < b.m() < c":              10,
		"(a < b < c)":                7,
		"f(a, b == c == d)":          12,
		"(a < b) < c < d":            12,
	} {
		wantError(t, expr, s, api.ErrSyntax, at)
	}
	for _, s := range []string{"(a < b) == c", "a == (b < c)", "(a == b) == (c == d)", "a < b & c < d", "a == b | c == d", "a < b & c | d < e & f", "f(a < b) < c", "a.m(b < c) < d", "a < f(b < c)"} {
		if _, e, at := expr.read(s); e != api.OK || at != 0 {
			t.Errorf("Expr(%q) returns %d, %d", s, e, at)
		}
	}
}

// P9.1, P9.2, P9.3: each own token gives its node a gap, and END gives one to the file.
func TestGaps(t *testing.T) {
	for _, x := range []struct {
		form
		source, want string
	}{
		{expr, "1a", "[1]"},
		{expr, "10", "[1]"},
		{expr, "1true", "[1]"},
		{expr, "1self", "[1]"},
		{expr, "1a2(3)", "[1|2|3]"},
		{expr, "1a2(3b4,5c6)", "[1|2|4|6][3][5]"},
		{expr, "1a2.3m4(5)", "[2|3|4|5][1]"},
		{expr, "1a2.3m4(5b6,7c8)", "[2|3|4|6|8][1][5][7]"},
		{expr, "1new2A3(4)", "[1|2|3|4]"},
		{expr, "1a2+3b", "[2][1][3]"},
		{expr, "1-2!3a", "[1][2][3]"},
		{expr, "1(2a3)", "[1|3][2]"},
		{expr, "1a2*3b4+5c", "[4][2][1][3][5]"},
		{stmt, "1let2a3=4b5;", "[1|2|3|5][4]"},
		{stmt, "1a2=3b4;", "[1|2|4][3]"},
		{stmt, "1return2a3;", "[1|3][2]"},
		{stmt, "1if2a3{4}", "[1][2][3|4][]"},
		{stmt, "1if2a3{4}5else6{7}", "[1][2][3|4][5][6|7]"},
		{stmt, "1while2a3{4b5;6}", "[1][2][3|6][5][4]"},
		{stmt, "1a2;", "[2][1]"},
		{file, "1", "[1]"},
		{file, "1const2K3=4a5;6", "[6][1|2|3|5][4]"},
		{file, "1class2A3{4}5", "[5][1|2|3|4][]"},
		{file, "1class2A3:4B5{6fn7m8(9)8int7{6}5}4", "[4][1|2|5|5][3|4][6|7][8|9][8][7|6]"},
		{file, "1fn2f3(4a5int6,7b8A9)8int7{6}5", "[5][1|2][3|6|9][4][5][7][8][8][7|6]"},
	} {
		source, want := spaced(x.source), spaced(x.want)
		n, e, at := x.read(source)
		if e != api.OK || at != 0 || showGaps(n) != want {
			t.Errorf("the gaps of %q are %q, %d, %d; want %q", source, showGaps(n), e, at, want)
		}
	}
}

// spaced replaces each digit from 1 to 9 by a gap of its own.
func spaced(s string) string {
	var b strings.Builder
	for _, c := range s {
		if '1' <= c && c <= '9' {
			b.WriteString([]string{" ", "\t", "\n", "  ", "// c\n", " //(\n\t", "\n\n", " // 01 \xff\n", "\n//\n//\n"}[c-'1'])
		} else {
			b.WriteRune(c)
		}
	}
	return b.String()
}

// P9.1, P9.2, P9.3: sources of all forms that follow from the rules, with the trees that the rules give them.
func TestPrograms(t *testing.T) {
	for _, x := range programs(t, 1, 12000) {
		wantTree(t, x.form, x.source, x.tree)
	}
}

// gapless returns the number of nodes that do not have a gap for each of their own tokens.
func gapless(n api.Node) int {
	k := 0
	if len(n.Gaps) != grammar.Own(n) {
		k++
	}
	for _, kid := range n.Kids {
		k += gapless(kid)
	}
	return k
}

// P9.4, W1: trees that are read are well-formed, have all gaps, and are printed as the source.
func TestLossless(t *testing.T) {
	for _, x := range programs(t, 2, 3000) {
		n, e, at := x.read(x.source)
		if e != api.OK || at != 0 {
			t.Fatalf("%s(%s) returns %d, %d", x.symbol, short(x.source), e, at)
		}
		if e := grammar.Check(n); e != api.OK || gapless(n) != 0 {
			t.Fatalf("Check of the tree of %s = %d, and %d nodes do not have their gaps", short(x.source), e, gapless(n))
		}
		if s, e := print.Text(n); e != api.OK || s != x.source {
			t.Fatalf("Text of the tree of %s = %s, %d", short(x.source), short(s), e)
		}
	}
}

// respaced returns the tree with other gaps in some nodes, and without gaps in others.
func (g *grower) respaced(n api.Node) api.Node {
	n.Kids = slices.Clone(n.Kids)
	for k, kid := range n.Kids {
		n.Kids[k] = g.respaced(kid)
	}
	own := len(n.Gaps)
	n.Gaps = nil
	if g.Intn(2) == 0 {
		for range own {
			n.Gaps = append(n.Gaps, anyGaps()[g.Intn(len(anyGaps()))])
		}
	}
	return n
}

// tight returns the tree with empty gaps.
func tight(n api.Node) api.Node {
	n.Gaps = make([]string, len(n.Gaps))
	n.Kids = slices.Clone(n.Kids)
	for k, kid := range n.Kids {
		n.Kids[k] = tight(kid)
	}
	return n
}

// P9.5, W1: trees that are printed are read as the same trees: with their gaps, with others, with few, with none, and in the canonical layout.
func TestPrinted(t *testing.T) {
	g := newGrower(3)
	for _, x := range programs(t, 3, 3000) {
		layout, e := print.Layout(x.tree)
		if e != api.OK {
			t.Fatalf("Layout of the tree of %s = %d", short(x.source), e)
		}
		for _, n := range []api.Node{x.tree, layout, tight(x.tree), g.respaced(x.tree), tree.Bare(x.tree)} {
			printed, e := print.Text(n)
			if e != api.OK {
				t.Fatalf("Text of the tree of %s with other gaps = %d", short(x.source), e)
			}
			got, e, at := x.read(printed)
			if e != api.OK || at != 0 || !tree.Same(got, n) {
				t.Fatalf("%s(%s) = %s, %d, %d; want %s", x.symbol, short(printed), show(got), e, at, show(n))
			}
		}
		plain, e := print.Plain(x.tree)
		if got, f, _ := x.read(plain); e != api.OK || f != api.OK || !tree.Equal(got, layout) {
			t.Fatalf("%s(%s) = %s %q, %d; want %q", x.symbol, short(plain), show(got), showGaps(got), f, showGaps(layout))
		}
	}
}

// P9.6: an expression in parentheses, and with a semicolon behind it.
func TestParts(t *testing.T) {
	for _, x := range programs(t, 4, 6000) {
		if x.symbol != expr.symbol || tree.Height(x.tree) == api.MaxDepth {
			continue
		}
		kids := []api.Node{x.tree}
		wantTree(t, expr, "("+x.source+")", api.Node{Kind: api.KdParen, Gaps: []string{"", ""}, Kids: kids})
		wantTree(t, stmt, x.source+";", api.Node{Kind: api.KdDo, Gaps: []string{""}, Kids: kids})
	}
}

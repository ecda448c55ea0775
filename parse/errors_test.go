package parse_test

import (
	"slices"
	"strings"
	"testing"

	"treemerge/api"
	"treemerge/print"
	"treemerge/token"
)

// P9.1, P9.2, P9.3: the empty string, and trivia alone, are files, and neither expressions nor statements.
func TestNoTokens(t *testing.T) {
	for _, s := range []string{"", " ", "\t", "\n", " \n\t ", "//\n", "// a\n", " // a\n\t//b\n ", "\n\n// fn f() int { }\n\n"} {
		wantTree(t, file, s, api.Node{Kind: api.KdFile, Gaps: []string{s}})
		wantError(t, expr, s, api.ErrSyntax, len(s))
		wantError(t, stmt, s, api.ErrSyntax, len(s))
	}
}

// P9.1, P9.2, P9.3: errors of the tokens come first, also behind an offending token.
func TestTokenErrors(t *testing.T) {
	beginnings := []string{
		"", " ", "// c\n", "fn f() int { }", "const K = 1;\n", "class A { fn m() int { return 1; } }", "fn f() int {", "fn ", // of files
		"a", "a +", "(a, b)", "f(a", "x = y;", "x ==", "if a { }", "let x =", // of expressions and statements
		"}", ")", "a b c", "fn fn", "1 = 2;", "else", ": : :", "x = = 1 ;", "f(,) ,", // of nothing
	}
	for _, beginning := range beginnings {
		for _, wrong := range []string{
			"01", "1x", "0_", "1000000000001", strings.Repeat("9", 40), // no integers
			strings.Repeat("x", api.MaxName+1), "_" + strings.Repeat("9", api.MaxName), // too long
			"// x", "//", "//\r", // comments without an end
			"#", "\"", "'", "$", "%", "@", "[", "]", "^", "~", "?", ">", "\\", "`", "\r", "\v", "\f", "\x00", "\x7f", "\x80", "\xff", "é", "\u00a0", "\u2028", "\ufeff",
		} {
			for _, rest := range []string{"", " ", " a", " ;", " }", " 01", " #"} {
				at := len(beginning) + 1
				for _, f := range forms() {
					wantError(t, f, beginning+" "+wrong+rest, api.ErrSyntax, at)
				}
			}
		}
	}
	// Complete comments may contain anything.
	for _, f := range forms() {
		wantError(t, f, "//01\n#", api.ErrSyntax, 5)
		wantError(t, f, ") // #\n // 01", api.ErrSyntax, 8)
	}
	// Two slashes with a blank between them are no comment.
	wantError(t, expr, "a / / b", api.ErrSyntax, 4)
	wantError(t, stmt, "a / / b;", api.ErrSyntax, 4)
	wantError(t, file, "const K = a / / b;", api.ErrSyntax, 14)
}

// offsets returns the source that consists of the tokens with blanks between them, and their offsets, that of END among them.
func offsets(tokens []string) (string, []int) {
	var at []int
	size := 0
	for _, s := range tokens {
		at = append(at, size)
		size += len(s) + 1
	}
	return strings.Join(tokens, " "), append(at, max(0, size-1))
}

// check checks what the function returns for the tokens, by the model. The chart is that of the first tokens.
func (m model) check(t *testing.T, f form, c chart, tokens []string) {
	t.Helper()
	source, at := offsets(tokens)
	first := len(c) - 1
	if i := m.offending(c, tokens[first:]); i >= 0 {
		wantError(t, f, source, api.ErrSyntax, at[first+i])
		return
	}
	n, e, offset := f.read(source)
	if s, g := print.Text(n); e != api.OK || offset != 0 || g != api.OK || s != source || gapless(n) != 0 {
		t.Errorf("%s(%s) = %s, %d, %d", f.symbol, short(source), show(n), e, offset)
	}
}

// samples returns sources of each form, with blanks between all tokens, that contain each sort of tokens at each place where the grammar has it.
func samples(symbol string) []string {
	statements := []string{
		"let a = 1 ;", "let a = b . m ( ) ;", "a = b ;", "a == b ;", "return a ;", "a ;", "f ( a , b ) ;", "new A ( ) . m ( a ) ;", "self . m ( ) ;", "- a ;",
		"if a { }", "if a { } else { }", "if a < b { a ; } else { b = 1 ; }", "if a { if b { } else { } } else { return 1 ; }",
		"while a { }", "while a == b { let a = 1 ; while b { } a = 2 ; }",
	}
	expressions := []string{
		"1", "true", "false", "a", "self", "new A ( )", "f ( )", "f ( a )", "f ( a , 1 , self )", "( a )", "( ( a ) )", "- a", "! - a", "- ( a )",
		"a . m ( )", "a . m ( b )", "a . m ( b , c ) . n ( )", "f ( ) . m ( )", "( a ) . m ( )", "new A ( ) . m ( )", "1 . m ( )",
		"a + b", "a - b * c", "a * b / c - d", "a == b", "a < b", "a < b & c == d | e", "a | b < c", "( a < b ) < c", "- a + - b", "f ( a < b , c == d )", "a . m ( ) * f ( ) + g ( a | b )",
	}
	switch symbol {
	case "Expr":
		return expressions
	case "Stmt":
		l := statements
		for _, s := range expressions {
			l = append(l, "x = "+s+" ;", s+" ;")
		}
		return l
	}
	l := []string{
		"", "const K = 1 ;", "fn f ( ) int { }", "fn f ( a int ) int { }", "fn f ( a int , b A , c bool ) A { return a ; }",
		"class A { }", "class A : B { }", "class A { fn m ( ) int { } }", "class A : B { fn m ( a int ) int { a ; } fn n ( ) int { } }",
		"const K = 1 ; class A { } fn f ( ) int { } class B { } const L = 2 ;",
	}
	for _, s := range statements {
		l = append(l, "fn f ( ) int { "+s+" }")
	}
	for _, s := range expressions {
		l = append(l, "const K = "+s+" ;", "class A { fn m ( ) int { if "+s+" { } } }")
	}
	return l
}

// P9.1, P9.2, P9.3: every token, END among them, at every place of the samples: instead of the token there, before it, and instead of all that follows. Each token is left out, too.
func TestOffending(t *testing.T) {
	m := newModel()
	for _, f := range forms() {
		for _, sample := range samples(f.symbol) {
			tokens := strings.Fields(sample)
			c := m.start(f.symbol)
			for i := 0; i <= len(tokens); i++ {
				m.check(t, f, c, tokens[:i:i])
				rest := tokens[i:]
				if len(rest) > 0 {
					m.check(t, f, c, slices.Concat(tokens[:i], rest[1:]))
				}
				for _, s := range vocabulary() {
					m.check(t, f, c, slices.Concat(tokens[:i], []string{s}))
					m.check(t, f, c, slices.Concat(tokens[:i], []string{s}, rest))
					if len(rest) > 0 {
						m.check(t, f, c, slices.Concat(tokens[:i], []string{s}, rest[1:]))
					}
				}
				if len(rest) > 0 {
					c = m.step(c, rest[0])
				}
			}
			if m.offending(m.start(f.symbol), tokens) >= 0 {
				t.Errorf("the sample %q is not of the form %s", sample, f.symbol)
			}
		}
	}
}

// P9.1, P9.2, P9.3: all short lists of tokens.
func TestShortSources(t *testing.T) {
	m := newModel()
	for _, f := range forms() {
		var try func(c chart, tokens []string, more int)
		try = func(c chart, tokens []string, more int) {
			m.check(t, f, c, tokens)
			for _, s := range vocabulary() {
				l := append(tokens[:len(tokens):len(tokens)], s)
				next := m.step(c, s)
				switch {
				case next == nil:
					m.check(t, f, c, append(l, ";", "}", ")"))
				case more > 0:
					try(next, l, more-1)
				}
			}
		}
		try(m.start(f.symbol), nil, map[string]int{"File": 6, "Expr": 3, "Stmt": 3}[f.symbol])
	}
}

// tokensOf returns the texts of the tokens of a source, without END.
func tokensOf(t *testing.T, source string) []string {
	l, e, _ := token.Tokens(source)
	if e != api.OK {
		t.Fatalf("Tokens(%s) = %d", short(source), e)
	}
	var texts []string
	for _, x := range l[:len(l)-1] {
		texts = append(texts, x.Text)
	}
	return texts
}

// P9.1, P9.2, P9.3: programs with a few tokens that are replaced, added or left out, and those of one form as another one.
func TestChangedPrograms(t *testing.T) {
	g := newGrower(5)
	words := vocabulary()
	for _, x := range programs(t, 5, 1500) {
		tokens := tokensOf(t, x.source)
		if len(tokens) > 150 {
			continue
		}
		for range 3 {
			i := g.Intn(len(tokens) + 1)
			j := min(len(tokens), i+g.Intn(2))
			var add []string
			for range g.Intn(3) {
				add = append(add, words[g.Intn(len(words))])
			}
			tokens = slices.Concat(tokens[:i], add, tokens[j:])
			for _, f := range forms() {
				g.check(t, f, g.start(f.symbol), tokens)
			}
		}
	}
}

// P9.1, P9.2, P9.3: tokens in any order.
func TestAnyTokens(t *testing.T) {
	g := newGrower(6)
	words := vocabulary()
	for range 20000 {
		var tokens []string
		for range g.Intn(8) {
			tokens = append(tokens, words[g.Intn(len(words))])
		}
		for _, f := range forms() {
			g.check(t, f, g.start(f.symbol), tokens)
		}
	}
}

// P9.2, P9.3: trivia behind the last token belongs to nothing; the offset is that of END. A file has it as its gap.
func TestTrailing(t *testing.T) {
	for _, f := range forms() {
		for _, sample := range samples(f.symbol) {
			for _, trivia := range []string{" ", "\t", "\n", "\n\n", "// c\n", " // c\n\t//d\n "} {
				s := sample + trivia
				if f.symbol != "File" {
					wantError(t, f, s, api.ErrSyntax, len(s))
				} else if n, e, at := f.read(s); e != api.OK || at != 0 || !slices.Equal(n.Gaps, []string{trivia}) {
					t.Errorf("File(%q) has the gaps %q, %d, %d", s, n.Gaps, e, at)
				}
			}
			// An offending token before it comes first, and so does an error of the tokens.
			s := sample + " )"
			wantError(t, f, s+" ", api.ErrSyntax, max(0, len(s)-1))
			wantError(t, f, s+" // c", api.ErrSyntax, len(s)+1)
			wantError(t, f, sample+" // c", api.ErrSyntax, len(sample)+1)
		}
	}
	wantError(t, expr, "(a ", api.ErrSyntax, 3)
	wantError(t, expr, "a + // c\n", api.ErrSyntax, 9)
	wantError(t, stmt, "if a { } ", api.ErrSyntax, 9)
	wantError(t, stmt, "if a { }  else", api.ErrSyntax, 14)
	wantError(t, file, "fn f() int {\n", api.ErrSyntax, 13)
}

// P9.1, P9.2, P9.3: a keyword where a name must stand is offending; a word that is too long is no token; int and bool are names.
func TestNames(t *testing.T) {
	long := strings.Repeat("n", api.MaxName)
	for _, x := range []struct {
		form
		before, after string
	}{
		{file, "const ", " = 1;"},
		{file, "fn ", "() int { }"},
		{file, "fn f(", " int) int { }"},
		{file, "fn f(a int, ", " int) int { }"},
		{file, "fn f(a ", ") int { }"},
		{file, "fn f() ", " { }"},
		{file, "class ", " { }"},
		{file, "class ", " : B { }"},
		{file, "class A : ", " { }"},
		{file, "class A { fn ", "() int { } }"},
		{stmt, "let ", " = 1;"},
		{stmt, "if a { let ", " = 1; }"},
		{expr, "new ", "()"},
		{expr, "a.", "()"},
		{expr, "a.m().", "(b)"},
	} {
		at := len(x.before)
		for _, s := range strings.Fields("fn class const let return if else while new self true false") {
			wantError(t, x.form, x.before+s+x.after, api.ErrSyntax, at)
		}
		for _, s := range []string{"1", "0", "1000000000000", "(", ")", "{", "=", "==", "-", ".", ":", ",", ";", long + "n", "_" + long} {
			if s == ")" && x.before == "fn f(" {
				continue // there may be no parameters
			}
			wantError(t, x.form, x.before+s+x.after, api.ErrSyntax, at)
		}
		for _, s := range []string{"int", "bool", "a", "_", "fn_", "Fn", "_1", "selfs", long} {
			n, e, offset := x.read(x.before + s + x.after)
			if e != api.OK || offset != 0 || !strings.Contains(show(n), " "+s) {
				t.Errorf("%q with the name %q is %s, %d, %d", x.before+s+x.after, s, show(n), e, offset)
			}
		}
	}
	for _, s := range strings.Fields("fn class const let return if else while") {
		wantError(t, expr, s, api.ErrSyntax, 0)
		wantError(t, expr, "a + "+s, api.ErrSyntax, 4)
		wantError(t, expr, s+"(a)", api.ErrSyntax, 0)
		wantError(t, stmt, "x = "+s+";", api.ErrSyntax, 4)
	}
	for _, s := range strings.Fields("fn class const else") {
		wantError(t, stmt, s+" = 1;", api.ErrSyntax, 0)
	}
	for _, s := range strings.Fields("let return if while new true false self 1 (a) f() a.m() -a a+b") {
		wantError(t, stmt, s+" = 1;", api.ErrSyntax, len(s)+1) // no name that is set
	}
}

// P9.1, P9.2, P9.3: offending tokens that are easily taken for right ones.
func TestOffendingPlaces(t *testing.T) {
	for _, x := range []struct {
		form
		source string
		at     int
	}{
		{expr, "f(,)", 2},
		{expr, "f(a,)", 4},
		{expr, "f(a,,b)", 4},
		{expr, "f(a b)", 4},
		{expr, "f(a;b)", 3},
		{expr, "f(a", 3},
		{expr, "f a", 2},
		{expr, "f()()", 3},
		{expr, "f()a", 3},
		{expr, "a.b", 3},
		{expr, "a.b + c", 4},
		{expr, "a.m()()", 5},
		{expr, "a.m(b,)", 6},
		{expr, "a.m(,b)", 4},
		{expr, "a.(b)", 2},
		{expr, "a..m()", 2},
		{expr, ".m()", 0},
		{expr, "()", 1},
		{expr, "(a", 2},
		{expr, "(a))", 3},
		{expr, "(a, b)", 2},
		{expr, "(a)(b)", 3},
		{expr, "new A", 5},
		{expr, "new A(1)", 6},
		{expr, "new A.m()", 5},
		{expr, "new(A)", 3},
		{expr, "a + * b", 4},
		{expr, "a == = b", 5},
		{expr, "a = b", 2},
		{expr, "a ! b", 2},
		{expr, "!", 1},
		{expr, "-", 1},
		{expr, "+a", 0},
		{expr, "a;", 1},
		{expr, "1 2", 2},
		{expr, "self self", 5},
		{expr, "int bool", 4},
		{stmt, "a", 1},
		{stmt, "a b;", 2},
		{stmt, "x =", 3},
		{stmt, "x = ;", 4},
		{stmt, "x = y", 5},
		{stmt, "x = y = z;", 6},
		{stmt, "x == y = z;", 7},
		{stmt, "f() = 1;", 4},
		{stmt, "f(x = 1);", 4},
		{stmt, "let x;", 5},
		{stmt, "let x == 1;", 6},
		{stmt, "let x = 1; ;", 11},
		{stmt, "return;", 6},
		{stmt, "return x = 1;", 9},
		{stmt, ";", 0},
		{stmt, "{ }", 0},
		{stmt, "a;;", 2},
		{stmt, "a; b;", 3},
		{stmt, "if { }", 3},
		{stmt, "if a b;", 5},
		{stmt, "if a { };", 8},
		{stmt, "if a { } else", 13},
		{stmt, "if a { } else b;", 14},
		{stmt, "if a { } else if b { }", 14},
		{stmt, "if a { } else { } else { }", 18},
		{stmt, "if a { else { } }", 7},
		{stmt, "if a = b { }", 5},
		{stmt, "else { }", 0},
		{stmt, "while { }", 6},
		{stmt, "while a x;", 8},
		{stmt, "while a { } else { }", 12},
		{stmt, "while a { b }", 12},
		{stmt, "if a { fn f() int { } }", 7},
		{stmt, "if a { const K = 1; }", 7},
		{file, "x = 1;", 0},
		{file, "1", 0},
		{file, "const K = 1", 11},
		{file, "const K = 1;;", 12},
		{file, "const K 1;", 8},
		{file, "const K == 1;", 8},
		{file, "fn f() { }", 7},
		{file, "fn f() int;", 10},
		{file, "fn f int { }", 5},
		{file, "fn f(a) int { }", 6},
		{file, "fn f(,) int { }", 5},
		{file, "fn f(a int,) int { }", 11},
		{file, "fn f(a int,, b int) int { }", 11},
		{file, "fn f(a int b int) int { }", 11},
		{file, "fn f(a, b int) int { }", 6},
		{file, "fn f() int { } }", 15},
		{file, "fn f() int {", 12},
		{file, "fn f() int { return 1; ", 23},
		{file, "fn f() int { fn g() int { } }", 13},
		{file, "fn f() int { class A { } }", 13},
		{file, "class : B { }", 6},
		{file, "class A : { }", 10},
		{file, "class A B { }", 8},
		{file, "class A : B : C { }", 12},
		{file, "class A : B, C { }", 11},
		{file, "class A { const K = 1; }", 10},
		{file, "class A { class B { } }", 10},
		{file, "class A { let a = 1; }", 10},
		{file, "class A { a int; }", 10},
		{file, "class A { fn m() int { } ; }", 25},
		{file, "class A", 7},
		{file, "class A;", 7},
		{file, "class A { } ;", 12},
		{file, "let a = 1;", 0},
		{file, "return 1;", 0},
	} {
		wantError(t, x.form, x.source, api.ErrSyntax, x.at)
	}
}

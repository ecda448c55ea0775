package print_test

import (
	"math/rand"
	"slices"
	"strings"
	"testing"

	"treemerge/api"
	"treemerge/grammar"
	"treemerge/print"
	"treemerge/token"
	"treemerge/tree"
)

// sample is a tree without gaps, with its words (separated by blanks, without END) and its source in the canonical layout.
type sample struct {
	tree  api.Node
	words string
	plain string
}

// samples are trees of each kind at the root, with all forms that the kind has.
func samples() []sample {
	a, b := variable("a"), variable("b")
	return slices.Concat(declarationSamples(), statementSamples(), []sample{
		{number(0), "0", "0"},
		{node(api.KdInt, "1000000000000"), "1000000000000", "1000000000000"},
		{node(api.KdBool, "true"), "true", "true"},
		{node(api.KdBool, "false"), "false", "false"},
		{a, "a", "a"},
		{self(), "self", "self"},
		{create("A"), "new A ( )", "new A()"},
		{call("f"), "f ( )", "f()"},
		{call("f", a), "f ( a )", "f(a)"},
		{call("f", a, number(1), self()), "f ( a , 1 , self )", "f(a, 1, self)"},
		{call("f", call("g", a, b), unary("-", b)), "f ( g ( a , b ) , - b )", "f(g(a, b), -b)"},
		{send(self(), "m"), "self . m ( )", "self.m()"},
		{send(a, "m", b), "a . m ( b )", "a.m(b)"},
		{send(a, "m", b, a, number(2)), "a . m ( b , a , 2 )", "a.m(b, a, 2)"},
		{send(send(create("A"), "m", a), "n", b), "new A ( ) . m ( a ) . n ( b )", "new A().m(a).n(b)"},
		{send(number(1), "m"), "1 . m ( )", "1.m()"},
		{call("f", a, send(call("g", a), "m")), "f ( a , g ( a ) . m ( ) )", "f(a, g(a).m())"},
		{unary("-", number(1)), "- 1", "-1"},
		{unary("!", a), "! a", "!a"},
		{unary("-", unary("-", unary("!", a))), "- - ! a", "--!a"},
		{unary("-", send(a, "m")), "- a . m ( )", "-a.m()"},
		{paren(a), "( a )", "(a)"},
		{paren(paren(binary("+", a, b))), "( ( a + b ) )", "((a + b))"},
		{binary("+", a, binary("*", b, number(2))), "a + b * 2", "a + b * 2"},
		{binary("-", binary("-", a, b), number(2)), "a - b - 2", "a - b - 2"},
		{binary("-", a, unary("-", b)), "a - - b", "a - -b"},
		{binary("==", a, b), "a == b", "a == b"},
		{binary("<", a, b), "a < b", "a < b"},
		{binary("|", binary("&", a, b), unary("!", b)), "a & b | ! b", "a & b | !b"},
		{binary("/", a, paren(binary("/", a, b))), "a / ( a / b )", "a / (a / b)"},
		{binary("*", send(a, "m", binary("+", a, b)), call("f")), "a . m ( a + b ) * f ( )", "a.m(a + b) * f()"},
	})
}

// declarationSamples are the samples of files, declarations and their parts.
func declarationSamples() []sample {
	a := variable("a")
	f := function("f", params(), "int", block())
	return []sample{
		{file(), "", ""},
		{file(f), "fn f ( ) int { }", "fn f() int {}\n"},
		{file(constant("c", number(1)), class("A", base("")), f), "const c = 1 ; class A { } fn f ( ) int { }", "const c = 1;\n\nclass A {}\n\nfn f() int {}\n"},
		{file(class("A", base("B"), f, f)), "class A : B { fn f ( ) int { } fn f ( ) int { } }", "class A : B {\n\tfn f() int {}\n\tfn f() int {}\n}\n"},
		{f, "fn f ( ) int { }", "fn f() int {}"},
		{function("f", params(param("a", "int"), param("b", "A")), "bool", block(ret(a))), "fn f ( a int , b A ) bool { return a ; }", "fn f(a int, b A) bool {\n\treturn a;\n}"},
		{params(), "( )", "()"},
		{params(param("a", "int")), "( a int )", "(a int)"},
		{params(param("a", "int"), param("b", "int"), param("c", "C")), "( a int , b int , c C )", "(a int, b int, c C)"},
		{param("a", "int"), "a int", "a int"},
		{typ("bool"), "bool", "bool"},
		{class("A", base("")), "class A { }", "class A {}"},
		{class("A", base("B")), "class A : B { }", "class A : B {}"},
		{class("A", base(""), f), "class A { fn f ( ) int { } }", "class A {\n\tfn f() int {}\n}"},
		{class("A", base("B"), function("f", params(), "int", block(ret(a))), f), "class A : B { fn f ( ) int { return a ; } fn f ( ) int { } }", "class A : B {\n\tfn f() int {\n\t\treturn a;\n\t}\n\tfn f() int {}\n}"},
		{base(""), "", ""},
		{base("B"), ": B", ": B"},
		{constant("c", binary("+", number(1), number(2))), "const c = 1 + 2 ;", "const c = 1 + 2;"},
	}
}

// statementSamples are the samples of statements and blocks.
func statementSamples() []sample {
	a, b := variable("a"), variable("b")
	return []sample{
		{block(), "{ }", "{}"},
		{block(do(a)), "{ a ; }", "{\n\ta;\n}"},
		{block(do(a), ret(b), set("a", b)), "{ a ; return b ; a = b ; }", "{\n\ta;\n\treturn b;\n\ta = b;\n}"},
		{let("a", b), "let a = b ;", "let a = b;"},
		{set("a", send(a, "m")), "a = a . m ( ) ;", "a = a.m();"},
		{ret(paren(a)), "return ( a ) ;", "return (a);"},
		{do(call("f", a)), "f ( a ) ;", "f(a);"},
		{do(binary("+", send(a, "m"), b)), "a . m ( ) + b ;", "a.m() + b;"},
		{branch(a, block(), orElse()), "if a { }", "if a {}"},
		{branch(a, block(), orElse(block())), "if a { } else { }", "if a {} else {}"},
		{branch(unary("!", a), block(do(a)), orElse(block(do(b)))), "if ! a { a ; } else { b ; }", "if !a {\n\ta;\n} else {\n\tb;\n}"},
		{orElse(), "", ""},
		{orElse(block()), "else { }", "else {}"},
		{orElse(block(do(a))), "else { a ; }", "else {\n\ta;\n}"},
		{while(a, block()), "while a { }", "while a {}"},
		{while(binary("<", a, b), block(do(a))), "while a < b { a ; }", "while a < b {\n\ta;\n}"},
		{block(while(a, block(branch(a, block(), orElse(block(ret(b)))))), ret(a)), "{ while a { if a { } else { return b ; } } return a ; }", "{\n\twhile a {\n\t\tif a {} else {\n\t\t\treturn b;\n\t\t}\n\t}\n\treturn a;\n}"},
	}
}

// P8.1, P8.2, P8.3: the samples; without gaps, Text is Plain.
func TestSamples(t *testing.T) {
	kinds := make([]bool, api.Kinds)
	for _, x := range samples() {
		kinds[x.tree.Kind] = true
		want := strings.Fields(x.words)
		if x.tree.Kind == api.KdFile {
			want = append(want, "")
		}
		if l, e := print.Words(x.tree); !slices.Equal(l, want) || e != api.OK {
			t.Errorf("Words = %q, %d, want %q", l, e, want)
		}
		if s, e := print.Plain(x.tree); s != x.plain || e != api.OK {
			t.Errorf("Plain = %q, %d, want %q", s, e, x.plain)
		}
		if s, e := print.Text(x.tree); s != x.plain || e != api.OK {
			t.Errorf("Text = %q, %d, want %q", s, e, x.plain)
		}
		l, e := print.Layout(x.tree)
		if want := modelLayout(t, x.tree); !tree.Equal(l, want) || e != api.OK {
			t.Errorf("Layout = %v, %d, want %v", l, e, want)
		}
	}
	for kind := 1; kind < api.Kinds; kind++ {
		if !kinds[kind] {
			t.Errorf("no sample is of the kind %d", kind)
		}
	}
}

// spaced is the tree of the source "fn f ( a int ) int{return a+1;}" of example 1.
func spaced() api.Node {
	sum := withGaps(binary("+", withGaps(variable("a"), " "), withGaps(number(1), "")), "")
	a := withGaps(node(api.KdParam, "a", withGaps(typ("int"), " ")), " ")
	body := withGaps(block(withGaps(ret(sum), "", "")), "", "")
	f := withGaps(node(api.KdFunc, "f", withGaps(params(a), " ", " "), withGaps(typ("int"), " "), body), "", " ")
	return withGaps(file(f), "")
}

// The examples of the chapter.
func TestExamples(t *testing.T) {
	for _, x := range []struct {
		tree        api.Node
		text, plain string
	}{
		{spaced(), "fn f ( a int ) int{return a+1;}", "fn f(a int) int {\n\treturn a + 1;\n}\n"},
		{file(), "", ""},
		{class("A", base("")), "class A {}", "class A {}"},
		{withGaps(binary("+", variable("a"), variable("b")), ""), "a+ b", "a + b"},
		{unary("-", number(1)), "-1", "-1"},
		{ret(withGaps(number(1), "")), "return 1;", "return 1;"},
	} {
		if s, e := print.Text(x.tree); s != x.text || e != api.OK {
			t.Errorf("Text = %q, %d, want %q", s, e, x.text)
		}
		if s, e := print.Plain(x.tree); s != x.plain || e != api.OK {
			t.Errorf("Plain = %q, %d, want %q", s, e, x.plain)
		}
	}
}

// P8.2: the gaps of a node count, and the canonical ones where there are none, in whichever nodes.
func TestTextOfGaps(t *testing.T) {
	a, b := variable("a"), variable("b")
	c := withGaps(a, "// c\n")
	for _, x := range []struct {
		tree api.Node
		want string
	}{
		{withGaps(a, " \n"), " \na"},
		{withGaps(file(), " // x\n"), " // x\n"},
		{withGaps(file(constant("c", a)), ""), "const c = a;"},
		{file(constant("c", a), withGaps(constant("d", b), "", "\t", " ", "\n")), "const c = a;const\td = b\n;\n"},
		{api.Node{Kind: api.KdName, Text: "a", Gaps: []string{}, Kids: []api.Node{}}, "a"},
		// A node with gaps whose kids have none, and the reverse.
		{withGaps(binary("+", a, b), "\t"), "a\t+ b"},
		{binary("+", withGaps(a, "\t"), withGaps(b, "\n")), "\ta +\nb"},
		{binary("+", binary("*", withGaps(a, "\t"), b), b), "\ta * b + b"},
		{withGaps(call("f", a, b, a), "\n", " ", "", "\t", "  "), "\nf (a, b\t, a  )"},
		{call("f", a, withGaps(b, ""), a), "f(a,b, a)"},
		{withGaps(send(a, "m", b, b), "\n", "\t", " ", "", ""), "a\n.\tm (b, b)"},
		{send(withGaps(a, "\n"), "m", withGaps(b, " ")), "\na.m( b)"},
		{withGaps(send(call("f"), "m"), "", " ", "\t", "\n"), "f(). m\t(\n)"},
		{withGaps(block(do(a)), " ", "\n\n"), " {\n\ta;\n\n}"},
		{block(withGaps(do(a), "\t")), "{\n\ta\t;\n}"},
		{block(do(withGaps(a, ""))), "{a;\n}"},
		{withGaps(class("A", base("B")), "", " ", "\n", " "), "class A : B\n{ }"},
		{class("A", withGaps(base("B"), "", "")), "class A:B {}"},
		{withGaps(class("A", base(""), function("f", params(), "int", block())), "", " ", "", ""), "class A{\n\tfn f() int {}}"},
		{class("A", base(""), withGaps(function("f", withGaps(params(), "", "\t"), "int", block()), "", "  ")), "class A {fn  f(\t) int {}\n}"},
		{branch(withGaps(paren(a), "", ""), withGaps(block(), "", ""), orElse(withGaps(block(), "", ""))), "if(a){} else{}"},
		{branch(a, block(), withGaps(orElse(block()), "\n")), "if a {}\nelse {}"},
		{withGaps(create("A"), "\t", "  ", "\n", " "), "\tnew  A\n( )"},
		{withGaps(unary("-", withGaps(number(1), "// one\n")), ""), "-// one\n1"},
		{block(do(c), do(c)), "{// c\na;// c\na;\n}"},
	} {
		if s, e := print.Text(x.tree); s != x.want || e != api.OK {
			t.Errorf("Text = %q, %d, want %q", s, e, x.want)
		}
		plain, _ := print.Plain(x.tree)
		if s, e := print.Text(tree.Bare(x.tree)); s != plain || e != api.OK {
			t.Errorf("Plain = %q, Text without gaps = %q, %d", plain, s, e)
		}
	}
}

// tight returns the tree with empty gaps in all nodes.
func tight(n api.Node) api.Node {
	return grower{Rand: rand.New(rand.NewSource(1)), share: 1, gaps: []string{""}}.space(n)
}

// P8.2: a space stands where an empty gap would join two words, and nowhere else.
func TestTextGlues(t *testing.T) {
	a, b := variable("a"), variable("b")
	f := function("f", params(param("a", "int"), param("b", "A")), "int", block(ret(a)))
	for _, x := range []struct {
		tree api.Node
		want string
	}{
		{file(constant("c", number(1)), class("A", base("B"), f, f), f), "const c=1;class A:B{fn f(a int,b A)int{return a;}fn f(a int,b A)int{return a;}}fn f(a int,b A)int{return a;}"},
		{class("A", base("")), "class A{}"},
		{block(let("a", b), set("a", number(1)), do(a), ret(number(1)), ret(self()), ret(create("A"))), "{let a=b;a=1;a;return 1;return self;return new A();}"},
		{block(branch(a, block(), orElse(block(while(b, block()))))), "{if a{}else{while b{}}}"},
		{ret(node(api.KdBool, "true")), "return true;"},
		{ret(call("f", a, b)), "return f(a,b);"},
		{ret(send(a, "m", number(1), number(2))), "return a.m(1,2);"},
		{ret(binary("+", binary("*", a, b), unary("-", number(1)))), "return a*b+-1;"},
		{ret(paren(a)), "return(a);"},
		{ret(unary("!", a)), "return!a;"},
		{branch(unary("-", a), block(), orElse()), "if-a{}"},
		{while(paren(a), block()), "while(a){}"},
		{variable("_"), "_"},
		{ret(variable("_")), "return _;"},
		{set("a", binary("==", a, b)), "a=a==b;"},
		{unary("-", unary("-", a)), "--a"},
		{binary("<", a, unary("-", b)), "a<-b"},
		{binary("/", a, b), "a/b"},
		{binary("&", a, unary("!", b)), "a&!b"},
		{send(number(1), "m"), "1.m()"},
	} {
		n := tight(x.tree)
		if s, e := print.Text(n); s != x.want || e != api.OK {
			t.Errorf("Text = %q, %d, want %q", s, e, x.want)
		}
	}
}

// P8.2: a comment directly behind the word / is kept apart from it, and from no other word.
func TestTextSlashes(t *testing.T) {
	a, c := variable("a"), withGaps(variable("b"), "// c\n")
	for _, x := range []struct {
		tree api.Node
		want string
	}{
		{binary("/", a, c), "a / // c\nb"},
		{binary("/", a, withGaps(variable("b"), " // c\n")), "a / // c\nb"},
		{binary("/", a, withGaps(variable("b"), "\n// c\n")), "a /\n// c\nb"},
		{withGaps(binary("/", a, c), "// d\n"), "a// d\n/ // c\nb"},
		{withGaps(binary("/", a, c), ""), "a/ // c\nb"},
		{binary("*", a, c), "a *// c\nb"},
		{binary("-", a, c), "a -// c\nb"},
		{unary("-", c), "-// c\nb"},
		{ret(c), "return// c\nb;"},
		{binary("/", a, send(c, "m")), "a / // c\nb.m()"},
		{binary("/", a, withGaps(call("f"), "// c\n", "", "")), "a / // c\nf()"},
		{binary("/", a, withGaps(paren(a), "// c\n", "// d\n")), "a / // c\n(a// d\n)"},
		{binary("/", a, withGaps(unary("-", c), "//\n")), "a / //\n-// c\nb"},
		{binary("/", a, withGaps(create("A"), "// c\n", "// d\n", "", "")), "a / // c\nnew// d\nA()"},
		{binary("/", binary("/", a, c), c), "a / // c\nb / // c\nb"},
		{binary("/", c, a), "// c\nb / a"},
		{do(binary("/", a, c)), "a / // c\nb;"},
	} {
		if s, e := print.Text(x.tree); s != x.want || e != api.OK {
			t.Errorf("Text = %q, %d, want %q", s, e, x.want)
		}
	}
}

// P8.3: the gaps of a whole file, node by node, whatever gaps it had.
func TestLayoutOfFile(t *testing.T) {
	a := withGaps(variable("a"), "// c\n")
	loop := while(binary("<", a, call("g", number(1), number(2))), block(set("a", send(a, "m", self(), a))))
	f := function("f", params(param("a", "int"), param("b", "A")), "int", withGaps(block(loop, ret(paren(a))), " ", " "))
	n := withGaps(file(constant("c", number(1)), class("A", base("B"), f), class("B", base(""))), "\n\n\n")
	got, e := print.Layout(n)
	if e != api.OK || !tree.Same(got, n) {
		t.Fatalf("Layout = %v, %d", got, e)
	}
	var l []string
	for _, r := range tree.Rows(got) {
		l = append(l, r.Text+"["+strings.Join(r.Gaps, "|")+"]")
	}
	want := []string{
		"[\n]",
		"c[| | |]", "1[ ]",
		"A[\n\n| | |\n]", "B[ | ]",
		"f[\n\t| ]", "[||]", "a[]", "int[ ]", "b[ ]", "A[ ]", "int[ ]",
		"[ |\n\t]", "[\n\t\t]", "<[ ]", "a[ ]", "g[ |||]", "1[]", "2[ ]",
		"[ |\n\t\t]", "a[\n\t\t\t| |]", "m[||||]", "a[ ]", "self[]", "a[ ]",
		"[\n\t\t|]", "[ |]", "a[]",
		"B[\n\n| | |]", "[]",
	}
	if !slices.Equal(l, want) {
		t.Errorf("Layout has the gaps\n%q, want\n%q", l, want)
	}
}

// P8.1, P8.2, P8.3: programs of all sorts, with and without gaps, by the model.
func TestPrograms(t *testing.T) {
	for _, n := range programs(t, 6000) {
		if l, e := print.Words(n); !slices.Equal(l, modelTexts(n)) || e != api.OK {
			t.Fatalf("Words of %v = %q, %d, want %q", n, l, e, modelTexts(n))
		}
		if s, e := print.Text(n); s != modelSource(n) || e != api.OK {
			t.Fatalf("Text of %v = %q, %d, want %q", n, s, e, modelSource(n))
		}
		if s, e := print.Plain(n); s != modelSource(tree.Bare(n)) || e != api.OK {
			t.Fatalf("Plain of %v = %q, %d, want %q", n, s, e, modelSource(tree.Bare(n)))
		}
		want := modelLayout(t, n)
		if l, e := print.Layout(n); !tree.Equal(l, want) || e != api.OK {
			t.Fatalf("Layout of %v = %v, %d, want %v", n, l, e, want)
		}
	}
}

// P8.4: the layout is well-formed and the same tree, has a layout that is equal to it, and is printed as Plain.
func TestLayoutConsequences(t *testing.T) {
	trees := programs(t, 3000)
	for _, x := range samples() {
		trees = append(trees, x.tree)
	}
	for _, n := range append(trees, sized(api.MaxText), sized(api.MaxText+1)) {
		l, e := print.Layout(n)
		if f := grammar.Check(l); e != api.OK || f != api.OK || !tree.Same(l, n) {
			t.Fatalf("Layout of %v = %v, %d, Check of it = %d", n, l, e, f)
		}
		if again, e := print.Layout(l); e != api.OK || !tree.Equal(again, l) {
			t.Fatalf("Layout of %v = %v, %d", l, again, e)
		}
		text, e := print.Text(l)
		plain, f := print.Plain(n)
		if text != plain || e != f {
			t.Fatalf("Text of the layout = %q, %d, Plain = %q, %d", text, e, plain, f)
		}
	}
}

// P8.5: the tokens of the sources are the words; without END the end follows.
func TestTokens(t *testing.T) {
	trees := programs(t, 3000)
	for _, x := range samples() {
		trees = append(trees, x.tree, tight(x.tree))
	}
	for _, n := range trees {
		want, e := print.Words(n)
		if n.Kind != api.KdFile {
			want = append(want, "")
		}
		text, f := print.Text(n)
		plain, g := print.Plain(n)
		if e != api.OK || f != api.OK || g != api.OK {
			t.Fatalf("Words, Text and Plain of %v return %d, %d and %d", n, e, f, g)
		}
		for _, s := range []string{text, plain} {
			tokens, e, at := token.Tokens(s)
			var l []string
			for _, x := range tokens {
				l = append(l, x.Text)
			}
			if e != api.OK || !slices.Equal(l, want) {
				t.Fatalf("the tokens of %q are %q, %d, %d; want %q", s, l, e, at, want)
			}
		}
	}
}

package token_test

import (
	"math"
	"regexp"
	"slices"
	"strings"
	"testing"

	"treemerge/api"
	"treemerge/token"
	"treemerge/trivia"
)

// The definitions of the chapter as expressions.
var (
	leadForm = regexp.MustCompile(`\A(?:[ \t\n]|//[^\n]*\n)*`)
	nextForm = regexp.MustCompile(`\A(?:[A-Za-z0-9_]+|==|[(){},;:.=<+*/!&|-])`)
	wordForm = regexp.MustCompile(`\A[A-Za-z_][A-Za-z0-9_]{0,31}\z`)
	intForm  = regexp.MustCompile(`\A(?:0|[1-9][0-9]{0,11}|1000000000000)\z`)
	markForm = regexp.MustCompile(`\A(?:==|[(){},;:.=<+*/!&|-])\z`)
	runEnd   = regexp.MustCompile(`[A-Za-z0-9_]\z`)
	runBegin = regexp.MustCompile(`\A[A-Za-z0-9_]`)
)

// wantKind is the definition of Kind.
func wantKind(s string) int {
	switch {
	case wordForm.MatchString(s):
		return 1
	case intForm.MatchString(s):
		return 2
	case markForm.MatchString(s):
		return 3
	}
	return 0
}

// wantTokens is the definition of Tokens.
func wantTokens(s string) ([]api.Token, api.Errno, int) {
	if len(s) > 65536 {
		return nil, api.ErrLimit, 0
	}
	var l []api.Token
	for at := 0; ; {
		lead := leadForm.FindString(s[at:])
		at += len(lead)
		if at == len(s) {
			return append(l, api.Token{Kind: 4, Lead: lead, At: at}), api.OK, 0
		}
		text := nextForm.FindString(s[at:])
		kind := wantKind(text)
		if kind == 0 || strings.HasPrefix(s[at:], "//") {
			return nil, api.ErrSyntax, at
		}
		l = append(l, api.Token{Kind: kind, Lead: lead, Text: text, At: at})
		at += len(text)
	}
}

// wantGlue is the definition of Glue.
func wantGlue(a, b string) bool {
	return runEnd.MatchString(a) && runBegin.MatchString(b) || a+b == "==" && a == b || a+b == "===" && a == "=" || a+b == "//" && a == b
}

// texts returns all strings of at most n of the given elements.
func texts(elements []string, n int) []string {
	all := []string{""}
	last := []string{""}
	for range n {
		var next []string
		for _, s := range last {
			for _, c := range elements {
				next = append(next, s+c)
			}
		}
		all = append(all, next...)
		last = next
	}
	return all
}

// shortTexts returns all short strings of the bytes that matter to tokens, and of one that does not.
func shortTexts() []string {
	return slices.Concat(
		texts([]string{" ", "\n", "/", "=", "a", "0", "1", "(", "\xff"}, 5),
		texts([]string{"/", "\n", "a"}, 8),
		texts([]string{"=", "<", "!", " "}, 6),
		texts([]string{"0", "1", "_", "Z"}, 6),
	)
}

// pieces are tokens and trivia of all kinds.
func pieces() []string {
	return []string{"fn", "x_1", "12", "0", "==", "=", "/", "-", "{", ";", " ", "\n\t", "//\n", "// a = 01 # é \xff\x00\r\n"}
}

// byteTexts returns each byte alone, and before, behind and between tokens and trivia.
func byteTexts() []string {
	var l []string
	for n := range 256 {
		c := string([]byte{byte(n)})
		for _, around := range [][2]string{{"", ""}, {"", " "}, {" ", ""}, {"a", ""}, {"", "a"}, {"a", "b"}, {"1", ""}, {"", "1"}, {"0", "0"}, {"=", ""}, {"", "="}, {"=", "="}, {"/", ""}, {"", "/"}, {"/", "\n"}, {"// ", "\n"}, {"// ", "\nb"}, {"a // ", ""}, {"a ", " b"}, {"a\n", ""}, {"(", ")"}, {"_", "="}} {
			l = append(l, around[0]+c+around[1])
		}
	}
	return l
}

// runTexts returns runs around the greatest integers and words, and around those that machines can hold.
func runTexts() []string {
	l := []string{
		"0", "00", "01", "007", "10", "0x1", "0_", "0a", "1_0", "1_000", "1e3", "1x", "12a34", "9a", "9_",
		"99999999999", "999999999999", "1000000000000", "1000000000001", "1000000000009", "1000000000010", "1999999999999", "2000000000000", "9999999999999", "01000000000000", "0999999999999", "10000000000000",
		"2147483648", "4294967296", "4294967297", "9223372036854775807", "9223372036854775808", "9223372036854775809", "18446744073709551615", "18446744073709551616", "18446744073709551617", "18446744074709551616", "184467440737095516160", "340282366920938463463374607431768211457",
		"a", "_", "__", "_0", "A", "z9", "fn1", "Fn", "int", "bool", "e1", "x1000000000001",
	}
	l = append(l, keywords()...)
	for _, n := range []int{1, 2, 12, 13, 14, 19, 20, 31, 32, 33, 34, 64, 255, 256, 65535, 65536} {
		for _, c := range []string{"n", "Q", "_", "0", "1", "9", "a1"} {
			l = append(l, strings.Repeat(c, n)[:n])
		}
		l = append(l, "a"+strings.Repeat("7", n-1), "7"+strings.Repeat("a", n-1), strings.Repeat("a", n-1)+"_", "1"+strings.Repeat("0", n-1))
	}
	return l
}

// keywords returns the keywords of the language.
func keywords() []string {
	return []string{"fn", "class", "const", "let", "return", "if", "else", "while", "new", "self", "true", "false"}
}

// longTexts returns sources of several lines, up to and beyond the greatest size.
func longTexts() []string {
	program := "// Adds.\nconst c = 1000000000000;\n\nclass A : B {\n\tfn m(a int, b A) bool {\n\t\t// the case\n\t\tif !(a == c) & -a < 2 | true { return self.m(a / 2, new A()); } // done\n\t\telse { a = a * 3 + f(); }\n\t}\n}\n"
	l := []string{program, strings.ReplaceAll(program, "\n", "\r\n"), program[:len(program)-4], strings.Repeat(program, 200)}
	for _, n := range []int{65534, 65535, 65536, 65537, 65538, 131072} {
		for _, s := range []string{" ", "\n", "/", "=", ";", "a ", "=\n", "1/ ", "//\n", "#", "a;// é\n", "é"} {
			l = append(l, strings.Repeat(s, n)[:n])
		}
		l = append(l, strings.Repeat(" ", n-1)+"#", strings.Repeat(" ", n-1)+"a", strings.Repeat(" ", n-2)+"//", "//"+strings.Repeat("/", n-3)+"\n", "#"+strings.Repeat(" ", n-1))
	}
	return l
}

// allTexts returns all of these strings.
func allTexts() []string {
	return slices.Concat(shortTexts(), texts(pieces(), 4), byteTexts(), runTexts(), longTexts())
}

// someTokens returns tokens of all kinds: all marks, and words and integers of all sizes.
func someTokens() []string {
	l := []string{"(", ")", "{", "}", ",", ";", ":", ".", "=", "==", "<", "+", "-", "*", "/", "!", "&", "|"}
	l = append(l, "a", "Z", "_", "x1", "int", "a_b", strings.Repeat("n", 32), "0", "1", "42", "1000000000000")
	return append(l, keywords()...)
}

// word returns a token of kind TkWord.
func word(lead, text string, at int) api.Token {
	return api.Token{Kind: api.TkWord, Lead: lead, Text: text, At: at}
}

// number returns a token of kind TkInt.
func number(lead, text string, at int) api.Token {
	return api.Token{Kind: api.TkInt, Lead: lead, Text: text, At: at}
}

// mark returns a token of kind TkMark.
func mark(lead, text string, at int) api.Token {
	return api.Token{Kind: api.TkMark, Lead: lead, Text: text, At: at}
}

// end returns a token of kind TkEnd.
func end(lead string, at int) api.Token {
	return api.Token{Kind: api.TkEnd, Lead: lead, At: at}
}

// textsOf returns the Text of each token.
func textsOf(l []api.Token) []string {
	var out []string
	for _, t := range l {
		out = append(out, t.Text)
	}
	return out
}

// shown returns at most the first bytes of s, for messages.
func shown(s string) string {
	return s[:min(len(s), 80)]
}

// checkTokens compares Tokens of s with its definition.
func checkTokens(t *testing.T, s string) {
	t.Helper()
	l, e, at := token.Tokens(s)
	wantL, wantE, wantAt := wantTokens(s)
	if e != wantE || at != wantAt || !slices.Equal(l, wantL) {
		t.Fatalf("Tokens(%q) of %d bytes is %d tokens, %d, %d, want %d, %d, %d", shown(s), len(s), len(l), e, at, len(wantL), wantE, wantAt)
	}
}

// P5.1: the examples of the chapter, and their like, with every field of the tokens.
func TestTokens(t *testing.T) {
	for _, x := range []struct {
		source string
		want   []api.Token
	}{
		{"", []api.Token{end("", 0)}},
		{" ", []api.Token{end(" ", 1)}},
		{"a=1;", []api.Token{word("", "a", 0), mark("", "=", 1), number("", "1", 2), mark("", ";", 3), end("", 4)}},
		{"a==b", []api.Token{word("", "a", 0), mark("", "==", 1), word("", "b", 3), end("", 4)}},
		{"a= =b", []api.Token{word("", "a", 0), mark("", "=", 1), mark(" ", "=", 3), word("", "b", 4), end("", 5)}},
		{"===", []api.Token{mark("", "==", 0), mark("", "=", 2), end("", 3)}},
		{"====", []api.Token{mark("", "==", 0), mark("", "==", 2), end("", 4)}},
		{"!=", []api.Token{mark("", "!", 0), mark("", "=", 1), end("", 2)}},
		{"-1", []api.Token{mark("", "-", 0), number("", "1", 1), end("", 2)}},
		{"\t/\n/ ", []api.Token{mark("\t", "/", 1), mark("\n", "/", 3), end(" ", 5)}},
		{"a// b\n/c", []api.Token{word("", "a", 0), mark("// b\n", "/", 6), word("", "c", 7), end("", 8)}},
		{"/ //\n", []api.Token{mark("", "/", 0), end(" //\n", 5)}},
		{"///\n", []api.Token{end("///\n", 4)}},
		{"//é\xff\n\n x", []api.Token{word("//é\xff\n\n ", "x", 8), end("", 9)}},
		{"x.self", []api.Token{word("", "x", 0), mark("", ".", 1), word("", "self", 2), end("", 6)}},
	} {
		if l, e, at := token.Tokens(x.source); e != api.OK || at != 0 || !slices.Equal(l, x.want) {
			t.Errorf("Tokens(%q) is %v, %d, %d", x.source, l, e, at)
		}
	}
}

// P5.1: the first offset at which no token begins.
func TestSyntaxErrors(t *testing.T) {
	for _, x := range []struct {
		source string
		at     int
	}{
		{"a 01", 2}, {"a 1x", 2}, {"a // x", 2}, {"a //", 2}, {"//", 0}, {"// x", 0}, {"///", 0}, {"//\n//", 3}, {"/ //", 2}, {"a/\n// b", 3},
		{"00", 0}, {"-01", 1}, {"1_0", 0}, {"0x1", 0}, {"(1000000000001)", 1}, {"18446744073709551617", 0}, {"9223372036854775808", 0},
		{"a=" + strings.Repeat("n", 33), 2}, {strings.Repeat("n", 32) + "\n" + strings.Repeat("1", 14), 33},
		{"#", 0}, {"a#", 1}, {"a\n#", 2}, {"a\r\n", 1}, {"é", 0}, {"aé", 1}, {"a\x00", 1}, {"\xff", 0}, {"\u00a0", 0}, {"1²", 1}, {"\ufeff", 0},
		{"'a'", 0}, {"\"a\"", 0}, {"a[0]", 1}, {"a > b", 2}, {"a % b", 2}, {"a ^ b", 2}, {"a ? b", 2}, {"a @", 2}, {"~a", 0}, {"$a", 0}, {"`", 0}, {"\\", 0}, {"/*a*/ 'b'", 6},
		{"01 # // x", 0}, {"# 01", 0}, {"a 1x # 01", 2}, {"// a\n\t1x //", 6},
	} {
		if l, e, at := token.Tokens(x.source); e != api.ErrSyntax || at != x.at || len(l) != 0 {
			t.Errorf("Tokens(%q) is %v, %d, %d, want %d", x.source, l, e, at, x.at)
		}
	}
}

// P5.1: a source of MaxText bytes is read; one of more is ErrLimit with the offset 0, whatever it contains.
func TestLimit(t *testing.T) {
	for _, s := range []string{" ", "\n", ";", "#", "1", "n", "é", "//\n", "a\n", "/ "} {
		for _, n := range []int{65537, 65538, 100000} {
			source := strings.Repeat(s, n)[:n]
			if l, e, at := token.Tokens(source); e != api.ErrLimit || at != 0 || len(l) != 0 {
				t.Errorf("Tokens of %d bytes %q is %d tokens, %d, %d", n, s, len(l), e, at)
			}
		}
	}
	full := strings.Repeat("a;", 32768)
	l, e, at := token.Tokens(full)
	if e != api.OK || at != 0 || len(l) != 65537 || l[65535] != mark("", ";", 65535) || l[65536] != end("", 65536) {
		t.Errorf("Tokens of a source of MaxText bytes is %d tokens, %d, %d", len(l), e, at)
	}
	if l, e, at := token.Tokens(full[1:] + "#"); e != api.ErrSyntax || at != 65535 || len(l) != 0 {
		t.Errorf("Tokens of a wrong source of MaxText bytes is %d tokens, %d, %d", len(l), e, at)
	}
}

// P5.1: the definition of tokens, for all short strings, all bytes, runs, and sources around the limit.
func TestTokensEverywhere(t *testing.T) {
	for _, s := range allTexts() {
		checkTokens(t, s)
	}
}

// P5.1: every beginning of a source, so that it ends within each of its tokens and comments.
func TestTokensOfBeginnings(t *testing.T) {
	program := longTexts()[0]
	for n := range len(program) + 1 {
		checkTokens(t, program[:n])
		checkTokens(t, program[n:])
		checkTokens(t, program[:n]+"#"+program[n:])
	}
}

// R3: the tokens are new memory in every call.
func TestTokensAreNewMemory(t *testing.T) {
	s := "a = 1; // b\n"
	l, _, _ := token.Tokens(s)
	for i := range l {
		l[i] = api.Token{Kind: 9, Lead: "x", Text: "y", At: -1}
	}
	checkTokens(t, s)
}

// P5.2: Join of any list, also of one that no source has, which is not modified.
func TestJoin(t *testing.T) {
	for _, x := range []struct {
		tokens []api.Token
		want   string
	}{
		{nil, ""},
		{[]api.Token{}, ""},
		{[]api.Token{{}}, ""},
		{[]api.Token{{}, {}, {Text: "a"}, {}}, "a"},
		{[]api.Token{end(" ", 1)}, " "},
		{[]api.Token{word(" ", "a", 1), number("\n", "1", 3), end(" ", 5)}, " a\n1 "},
		{[]api.Token{{Kind: api.TkEnd, Lead: "x", Text: "y", At: 7}, word("01", "//", -3), {Kind: 99, Lead: "#", Text: "\xffé", At: math.MinInt}, {Kind: -1, Text: "==", At: math.MaxInt}}, "xy01//#\xffé=="},
		{[]api.Token{{Text: "a"}, {Text: "a"}, {Lead: "b"}, {Lead: "b"}}, "aabb"},
	} {
		list := slices.Clone(x.tokens)
		if s := token.Join(list); s != x.want {
			t.Errorf("Join(%v) is %q, want %q", x.tokens, s, x.want)
		}
		if !slices.Equal(list, x.tokens) {
			t.Errorf("Join has changed %v to %v", x.tokens, list)
		}
	}
	many := slices.Repeat([]api.Token{{Lead: " ", Text: "ab"}, {Lead: "//\n"}}, 30000)
	if s := token.Join(many); s != strings.Repeat(" ab//\n", 30000) {
		t.Errorf("Join of a long list has %d bytes", len(s))
	}
}

// P5.2: the examples of the chapter, and their like. The conditions are those of the strings, which need not be tokens.
func TestGlue(t *testing.T) {
	for _, x := range []struct{ a, b string }{
		{"a", "1"}, {"1", "a"}, {"1", "2"}, {"_", "_"}, {"fn", "f"}, {"z", "Z"}, {"0", "9"}, {"A", "a"}, {"=", "="}, {"=", "=="}, {"/", "/"},
		{"01", "1x"}, {" a", "b "}, {"(a", "b)"}, {"é1", "a#"},
	} {
		if !token.Glue(x.a, x.b) {
			t.Errorf("Glue(%q, %q) is false", x.a, x.b)
		}
	}
	for _, x := range []struct{ a, b string }{
		{"==", "="}, {"==", "=="}, {"a", "("}, {"(", "a"}, {"", "a"}, {"a", ""}, {"", ""}, {"=", ""}, {"", "="}, {"/", ""}, {"", "/"}, {"", "=="},
		{"-", "-"}, {"+", "+"}, {"&", "&"}, {"|", "|"}, {"!", "="}, {"!", "=="}, {"<", "="}, {"=", "<"}, {"=", "/"}, {"/", "="}, {"/", "*"}, {"*", "/"}, {".", "1"}, {"1", "."}, {"-", "1"},
		{"=", "==="}, {"===", "="}, {"=", "=a"}, {"a=", "="}, {"= ", "="}, {"=", " ="}, {"/", "//"}, {"//", "/"}, {"/", "/a"}, {"a/", "/"}, {"a ", "b"}, {"a", " b"}, {"é", "é"}, {"a", "é"}, {"é", "a"}, {"\xff", "\xff"}, {"a\x00", "b"},
	} {
		if token.Glue(x.a, x.b) {
			t.Errorf("Glue(%q, %q) is true", x.a, x.b)
		}
	}
}

// P5.2: the definition of Glue, for all pairs of short strings and of bytes.
func TestGlueEverywhere(t *testing.T) {
	short := append(texts([]string{"a", "_", "0", "=", "/", " ", "(", "\xff"}, 2), texts([]string{"=", "/"}, 4)...)
	for n := range 256 {
		short = append(short, string([]byte{byte(n)}))
	}
	for _, a := range short {
		for _, b := range short {
			if g := token.Glue(a, b); g != wantGlue(a, b) {
				t.Fatalf("Glue(%q, %q) is %t", a, b, g)
			}
		}
	}
}

// P5.2: the examples of the chapter, and their like, with strings that are no tokens, or more than one.
func TestKind(t *testing.T) {
	for kind, l := range map[int][]string{
		api.TkWord: append(keywords(), "a", "Z", "_", "a_1", "int", "bool", "_1", "fn_", strings.Repeat("n", 32), strings.Repeat("_", 32)),
		api.TkInt:  {"0", "1", "9", "10", "999999999999", "1000000000000"},
		api.TkMark: {"(", ")", "{", "}", ",", ";", ":", ".", "=", "==", "<", "+", "-", "*", "/", "!", "&", "|"},
		0: {
			"", " ", "\n", " a", "a ", "a\n", "\ta", "a b", "a.b", "a(", "(a", "()", "-1", "+1", "1.", "===", "= =", "=a", "a=", "<=", "!=", "&&", "||",
			"//", "//\n", "// a\n", "///", "a//\n", "//\na", "/ /", "/=", "/*", "00", "01", "1x", "1_0", "0x1", "1000000000001", "9999999999999", "01000000000000", "18446744073709551617",
			strings.Repeat("n", 33), strings.Repeat("1", 14), strings.Repeat("0", 13), "é", "aé", "éa", "\x00", "a\x00", "\xff", "a\xff", "#", "[", "]", ">", "%", "^", "~", "?", "@", "$", "'", "\"", "\\", "`", "\r", "\v", "\u00a0", "１", "ａ",
		},
	} {
		for _, s := range l {
			if k := token.Kind(s); k != kind {
				t.Errorf("Kind(%q) is %d, want %d", s, k, kind)
			}
		}
	}
}

// P5.2: the definition of Kind, for all strings of one and two bytes, all short strings, runs, and long strings.
func TestKindEverywhere(t *testing.T) {
	l := allTexts()
	for a := range 256 {
		for b := range 256 {
			l = append(l, string([]byte{byte(a), byte(b)}))
		}
	}
	for _, s := range l {
		if k := token.Kind(s); k != wantKind(s) {
			t.Fatalf("Kind(%q) of %d bytes is %d, want %d", shown(s), len(s), k, wantKind(s))
		}
	}
}

// P5.3 and P5.4: the tokens of a source follow each other without a rest, each one at its offset behind valid trivia, and of the kind of its text.
func TestLosslessWithOffsets(t *testing.T) {
	accepted := 0
	for _, s := range allTexts() {
		l, e, _ := token.Tokens(s)
		if e != api.OK {
			continue
		}
		accepted++
		if token.Join(l) != s {
			t.Fatalf("Join(Tokens(%q)) is %q", shown(s), shown(token.Join(l)))
		}
		from := 0
		for i, x := range l {
			if x.At != from+len(x.Lead) || s[from:x.At] != x.Lead || !strings.HasPrefix(s[x.At:], x.Text) || !trivia.Valid(x.Lead) {
				t.Fatalf("Tokens(%q) has the token %v behind %d", shown(s), x, from)
			}
			from = x.At + len(x.Text)
			last := i == len(l)-1
			if last && (x.Kind != api.TkEnd || x.Text != "" || from != len(s)) {
				t.Fatalf("Tokens(%q) has the end %v", shown(s), x)
			}
			if !last && (x.Kind == 0 || x.Kind != token.Kind(x.Text)) {
				t.Fatalf("Tokens(%q) has the token %v, whose text has the kind %d", shown(s), x, token.Kind(x.Text))
			}
		}
	}
	if accepted < 10000 {
		t.Errorf("only %d sources are accepted", accepted)
	}
}

// P5.2 and P5.4: Kind is that of the only token of a source without trivia.
func TestKindAndTokens(t *testing.T) {
	for _, s := range allTexts() {
		kind := 0
		if l, e, _ := token.Tokens(s); e == api.OK && len(l) == 2 && l[0].Text == s {
			kind = l[0].Kind
		}
		if token.Kind(s) != kind {
			t.Fatalf("Kind(%q) is %d, that of Tokens %d", shown(s), token.Kind(s), kind)
		}
	}
}

// readAs reports whether the tokens of s have the given texts, and then the end.
func readAs(s string, want ...string) bool {
	l, e, _ := token.Tokens(s)
	return e == api.OK && slices.Equal(textsOf(l), append(slices.Clone(want), ""))
}

// P5.5: tokens without a gap are read as before exactly if Glue is false; with a space they always are.
func TestGaps(t *testing.T) {
	for _, a := range someTokens() {
		for _, b := range someTokens() {
			if readAs(a+b, a, b) == token.Glue(a, b) {
				t.Errorf("%q and %q: Glue is %t", a, b, token.Glue(a, b))
			}
			for _, gap := range []string{" ", "\t", "\n", " //\n", "\n// c\n"} {
				if !readAs(a+gap+b, a, b) {
					t.Errorf("%q and %q with the gap %q are read differently", a, b, gap)
				}
			}
		}
	}
}

// P5.5: in a longer source, too, a gap is needed only where Glue is true.
func TestGapsOfThree(t *testing.T) {
	join := func(a, b string) string {
		if token.Glue(a, b) {
			return " " + b
		}
		return b
	}
	for _, a := range someTokens() {
		for _, b := range someTokens() {
			for _, c := range someTokens() {
				if s := a + join(a, b) + join(b, c); !readAs(s, a, b, c) {
					t.Fatalf("%q is not read as %q, %q, %q", s, a, b, c)
				}
			}
		}
	}
}

// P5.5: a single space in place of any trivia between tokens leaves their texts as they are.
func TestSpacesForTrivia(t *testing.T) {
	for _, s := range allTexts() {
		l, e, _ := token.Tokens(s)
		if e != api.OK || len(s) > 60000 {
			continue
		}
		want := textsOf(l)
		for i := range l {
			l[i].Lead = " "
		}
		if !readAs(token.Join(l), want[:len(want)-1]...) {
			t.Fatalf("%q with spaces is read differently", shown(s))
		}
	}
}

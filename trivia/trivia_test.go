package trivia_test

import (
	"math"
	"regexp"
	"slices"
	"strings"
	"testing"

	"treemerge/api"
	"treemerge/lines"
	"treemerge/trivia"
)

// The definitions of the chapter as expressions.
var (
	triviaForm  = regexp.MustCompile(`\A([ \t\n]|//[^\n]*\n)*\z`)
	commentForm = regexp.MustCompile(`//[^\n]*\n`)
	lastIndent  = regexp.MustCompile(`\n(\t*)[^\n]*\z`)
	feedAndTabs = regexp.MustCompile(`\n\t*`)
)

// wantEnd is the definition of End for an offset within s: the greatest end of trivia.
func wantEnd(s string, at int) int {
	to := len(s)
	for !triviaForm.MatchString(s[at:to]) {
		to--
	}
	return to
}

// wantComments is the definition of Comments. Within trivia, an expression finds exactly the comments.
func wantComments(s string) []string {
	var l []string
	for _, c := range commentForm.FindAllString(s[:wantEnd(s, 0)], -1) {
		l = append(l, c[:len(c)-1])
	}
	return l
}

// wantIndent is the definition of Indent.
func wantIndent(s string) int {
	if m := lastIndent.FindStringSubmatch(s); m != nil {
		return len(m[1])
	}
	return 0
}

// wantShift is the definition of Shift for numbers from -MaxDepth to MaxDepth.
func wantShift(s string, by int) string {
	return feedAndTabs.ReplaceAllStringFunc(s, func(m string) string {
		return "\n" + strings.Repeat("\t", max(0, len(m)-1+by))
	})
}

// texts returns all strings of at most n of the given elements.
func texts(elements []string, n int) []string {
	all := []string{""}
	last := []string{""}
	for range n {
		var next []string
		for _, s := range last {
			for _, c := range elements {
				next = append(next, s+c)
			}
		}
		all = append(all, next...)
		last = next
	}
	return all
}

// shortTexts returns all short strings of the bytes that matter to trivia, one that does not, and a byte that is not valid UTF-8.
func shortTexts() []string {
	return texts([]string{" ", "\t", "\n", "/", "a", "\xff"}, 6)
}

// triviaTexts returns all short sequences of blanks and comments. The comments contain what would be blanks, comments or invalid bytes elsewhere.
func triviaTexts() []string {
	return texts([]string{" ", "\t", "\n", "//\n", "// a\n", "//\t// b /\n", "///\r\n", "//\xff\n"}, 4)
}

// byteTexts returns each byte alone, in a comment, before and behind blanks, behind a slash, and behind line feeds and tabs.
func byteTexts() []string {
	var l []string
	for n := range 256 {
		c := string([]byte{byte(n)})
		for _, around := range [][2]string{{"", ""}, {"", " "}, {" ", ""}, {"\t\n", "\n"}, {"//", "\n"}, {"// a", "b\n "}, {"/", "/\n"}, {"/", "\n"}, {"", "/\n"}, {"", "//\n"}, {"//\n", ""}, {"\n", "\t"}, {"\n\t", "\t"}, {"\n\t\t", ""}, {"\t", "\n"}, {"a\n", "\t\n\t"}} {
			l = append(l, around[0]+c+around[1])
		}
	}
	return l
}

// longTexts returns texts of several lines, up to and beyond the greatest sizes of sources.
func longTexts() []string {
	big := api.MaxText
	return []string{
		"\n// Adds.\nfn add(a int, b int) int {\n\t// the sum\n\treturn a + b; // done\n}\n",
		"  // one\n\n\n\t\t// two // three\n\t//\n   \t\n",
		"// a\r\n\r\n", "\u00a0// a\n", "// ä 中 \u2028 \u0085 \x00\n\u2003", "/* a */\n", "# a\n", "/\n/\n", "\\n", "\v\f", "\x00",
		strings.Repeat(" ", big+1), strings.Repeat("\n", big), strings.Repeat("\t", big), strings.Repeat("/", big), strings.Repeat("/", big) + "\n",
		strings.Repeat("// a\n\t", 9000), strings.Repeat("// a\n\t", 9000) + "// b", strings.Repeat("// a\n\t", 9000) + "b",
		"\n" + strings.Repeat("\t", api.MaxDepth+9), "//\n" + strings.Repeat("\t", api.MaxDepth) + "//\n" + strings.Repeat("\t", api.MaxDepth-1) + "\n\t",
	}
}

// allTexts returns all of these texts.
func allTexts() []string {
	return slices.Concat(shortTexts(), triviaTexts(), byteTexts(), longTexts())
}

// P4.1: the examples of the chapter, and their like.
func TestValid(t *testing.T) {
	for _, s := range []string{"", " ", "\t", "\n", " \t\n", " // x\n", "//\n", "///\n", "////\n", "// x\n", "// // x\n", "//x\n//y\n", "//x\n \t", "// \xff\x00\r\n", "// ä\n"} {
		if !trivia.Valid(s) {
			t.Errorf("Valid(%q) is false", s)
		}
	}
	for _, s := range []string{"// x", "//", "/ /", "/ /\n", "/", "/\n", "/\n/\n", "a", " a", "a ", "//x\na", "//x\n/", "//x\n//", "//\n// y", "\r", "\r\n", "// x\r", "\v", "\f", "\x00", "\u00a0", "\u2003", "\u2028", "\u0085", "\ufeff", "\xff", "/**/", "#\n", "\\"} {
		if trivia.Valid(s) {
			t.Errorf("Valid(%q) is true", s)
		}
	}
}

// P4.1: the definition of trivia, for all short strings, all bytes and long texts.
func TestValidEverywhere(t *testing.T) {
	for _, s := range allTexts() {
		if v := trivia.Valid(s); v != triviaForm.MatchString(s) {
			t.Fatalf("Valid(%q) is %t", s, v)
		}
	}
	for _, s := range triviaTexts() {
		if !trivia.Valid(s) {
			t.Fatalf("Valid(%q) is false", s)
		}
	}
}

// P4.2: the examples of the chapter, and their like, incomplete comments among them.
func TestEnd(t *testing.T) {
	for _, x := range []struct {
		text     string
		at, want int
	}{
		{" // a\nb", 0, 6},
		{" // a\nb", 1, 6},
		{" // a\nb", 2, 2},
		{" // a\nb", 3, 4},
		{" // a\nb", 4, 4},
		{" // a\nb", 5, 6},
		{" // a\nb", 6, 6},
		{" // a\nb", 7, 7},
		{" // a", 0, 1},
		{" // a", 1, 1},
		{"", 0, 0},
		{"a", 0, 0},
		{"a", 1, 1},
		{" ", 1, 1},
		{"//", 0, 0},
		{"//\n", 0, 3},
		{"///\n", 1, 4},
		{"//\n//", 0, 3},
		{"//a\n //b\n\t/", 0, 10},
		{"a // b\n\n\tc", 1, 9},
		{" \r\n", 0, 1},
	} {
		if n := trivia.End(x.text, x.at); n != x.want {
			t.Errorf("End(%q, %d) is %d, want %d", x.text, x.at, n, x.want)
		}
	}
}

// P4.2: the greatest end of trivia, from every offset.
func TestEndEverywhere(t *testing.T) {
	short := slices.Concat(texts([]string{" ", "\t", "\n", "/", "a", "\xff"}, 5), texts([]string{"\n", "/"}, 9), byteTexts())
	for _, s := range short {
		for at := range len(s) + 1 {
			if n := trivia.End(s, at); n != wantEnd(s, at) {
				t.Fatalf("End(%q, %d) is %d, want %d", s, at, n, wantEnd(s, at))
			}
		}
	}
}

// P4.2: offsets outside of the string are returned.
func TestEndOutside(t *testing.T) {
	for _, s := range []string{"", " ", "a", "// a\n", "// a", "a\n\t// b\n"} {
		n := len(s)
		for _, at := range []int{-1, -2, -n, -n - 1, n + 1, n + 2, 2*n + 1, math.MaxInt, math.MaxInt - 1, math.MinInt, math.MinInt + 1, math.MaxInt32 + 1, 1 << 32, -1 << 32} {
			if at >= 0 && at <= n {
				continue
			}
			if got := trivia.End(s, at); got != at {
				t.Errorf("End(%q, %d) is %d", s, at, got)
			}
		}
	}
}

// P4.3: the examples of the chapter, and their like: comments behind the first token, or without a line feed, do not count.
func TestComments(t *testing.T) {
	for _, x := range []struct {
		text string
		want []string
	}{
		{"", nil},
		{" \t\n\n", nil},
		{"// a\n\t//b\n", []string{"// a", "//b"}},
		{" //\n// // b\nx // c\n", []string{"//", "// // b"}},
		{"//", nil},
		{"// a", nil},
		{"// a\n// b", []string{"// a"}},
		{"// a\n// b ", []string{"// a"}},
		{"x // a\n", nil},
		{"/ // a\n", nil},
		{"//\n//\n//\n", []string{"//", "//", "//"}},
		{"// b\n// a\n// b\n", []string{"// b", "// a", "// b"}},
		{"//// a ////\n", []string{"//// a ////"}},
		{"// a \t\r\n", []string{"// a \t\r"}},
		{"//\xff\x00ä\n\r// b\n", []string{"//\xff\x00ä"}},
	} {
		if l := trivia.Comments(x.text); !slices.Equal(l, x.want) {
			t.Errorf("Comments(%q) is %q, want %q", x.text, l, x.want)
		}
	}
}

// P4.3: the definition of comments, for all short strings, all bytes and long texts.
func TestCommentsEverywhere(t *testing.T) {
	short := slices.Concat(texts([]string{" ", "\n", "/", "a", "\xff"}, 5), texts([]string{"\n", "/"}, 10), triviaTexts(), byteTexts())
	for _, s := range short {
		if l := trivia.Comments(s); !slices.Equal(l, wantComments(s)) {
			t.Fatalf("Comments(%q) is %q, want %q", s, l, wantComments(s))
		}
	}
	many := strings.Repeat("//\n\t// a\n", 5000)
	if l := trivia.Comments(many + "// b"); len(l) != 10000 || l[0] != "//" || l[9999] != "// a" {
		t.Errorf("Comments of a long text are %d", len(l))
	}
}

// R3: the lists are new memory in every call.
func TestCommentsAreNewMemory(t *testing.T) {
	s := "// a\n// b\n"
	l := trivia.Comments(s)
	_ = append(l[:0], "x", "y")
	if l := trivia.Comments(s); !slices.Equal(l, []string{"// a", "// b"}) {
		t.Errorf("Comments(%q) is %q", s, l)
	}
}

// P4.4: the examples of the chapter, and their like.
func TestIndent(t *testing.T) {
	for _, x := range []struct {
		text string
		want int
	}{
		{"", 0},
		{"\t", 0},
		{"\t\t// a", 0},
		{"\n", 0},
		{"\n\n\t\t", 2},
		{"\n \t", 0},
		{"\n\t \t", 1},
		{"\n\t\t\n", 0},
		{"\n\t\t\n\t", 1},
		{"\t\n", 0},
		{"a\n\tb\t", 1},
		{"// a\n\t\t\t", 3},
		{"\n\t// a", 1},
		{"\n\r\t", 0},
		{"\n\v\t", 0},
		{"\r\t", 0},
		{"\n" + strings.Repeat("\t", 100), 100},
	} {
		if n := trivia.Indent(x.text); n != x.want {
			t.Errorf("Indent(%q) is %d, want %d", x.text, n, x.want)
		}
	}
}

// P4.4: the definition of Indent, for all short strings, all bytes and long texts, whether they are trivia or not.
func TestIndentEverywhere(t *testing.T) {
	for _, s := range allTexts() {
		if n := trivia.Indent(s); n != wantIndent(s) {
			t.Fatalf("Indent(%q) is %d, want %d", s, n, wantIndent(s))
		}
	}
}

// P4.5: the examples of the chapter, and their like, which are not all trivia.
func TestShift(t *testing.T) {
	for _, x := range []struct {
		text string
		by   int
		want string
	}{
		{"", 1, ""},
		{"\n\t// a\n\t\t", 1, "\n\t\t// a\n\t\t\t"},
		{"\n\t// a\n\t\t", -1, "\n// a\n\t"},
		{"\n\t// a\n\t\t", -2, "\n// a\n"},
		{"\n\t// a\n\t\t", 0, "\n\t// a\n\t\t"},
		{"a\n\tb", 2, "a\n\t\t\tb"},
		{"\t\t", 3, "\t\t"},
		{"\t\t", -1, "\t\t"},
		{"\t\n \t", 1, "\t\n\t \t"},
		{"\t\n \t", -1, "\t\n \t"},
		{"\n", 1, "\n\t"},
		{"\n", -1, "\n"},
		{"\n\n\n", 1, "\n\t\n\t\n\t"},
		{"\n\t\n\t\t\n", -1, "\n\n\t\n"},
		{"\n\t \t\n", -2, "\n \t\n"},
		{"\n\ta\tb\t\n\t", -1, "\na\tb\t\n"},
		{"// a", 4, "// a"},
		{"\r\t", 1, "\r\t"},
		{"\r\n\r\t", 1, "\r\n\t\r\t"},
		{"\xff\n\xff", 1, "\xff\n\t\xff"},
		{"ä\n\tö", -3, "ä\nö"},
		{"\\n", 1, "\\n"},
	} {
		if s := trivia.Shift(x.text, x.by); s != x.want {
			t.Errorf("Shift(%q, %d) is %q, want %q", x.text, x.by, s, x.want)
		}
	}
}

// P4.5: the definition of Shift, for all short strings, all bytes and long texts.
func TestShiftEverywhere(t *testing.T) {
	for _, s := range allTexts() {
		for _, by := range []int{-3, -1, 0, 1, 2} {
			if got := trivia.Shift(s, by); got != wantShift(s, by) {
				t.Fatalf("Shift(%q, %d) is %q, want %q", s, by, got, wantShift(s, by))
			}
		}
	}
}

// P4.5: all numbers near the limits, and outside of them, where the nearest one counts.
func TestShiftNumbers(t *testing.T) {
	tabs := strings.Repeat("\t", 2*api.MaxDepth)
	numbers := []int{math.MinInt, math.MinInt + 1, math.MinInt + api.MaxDepth, math.MinInt32, -1 << 32, 1 << 32, math.MaxInt32, math.MaxInt - 2*api.MaxDepth, math.MaxInt - 1, math.MaxInt}
	for by := -2*api.MaxDepth - 5; by <= 2*api.MaxDepth+5; by++ {
		numbers = append(numbers, by)
	}
	for _, by := range numbers {
		want := by
		if by < -60 {
			want = -60
		}
		if by > 60 {
			want = 60
		}
		for _, s := range []string{"\n", "\n\t", "a\n\tb\n", "\n" + tabs + "a\n" + tabs[:59] + "\n" + tabs[:60] + "\n" + tabs[:61]} {
			if got := trivia.Shift(s, by); got != wantShift(s, want) {
				t.Errorf("Shift(%q, %d) is %q", s, by, got)
			}
		}
	}
}

// P4.6: the concatenation of trivia is trivia, with the comments of both.
func TestTriviaJoin(t *testing.T) {
	l := texts([]string{" ", "\t", "\n", "//\n", "// a\n", "//\t// b /\n"}, 3)
	for _, a := range l {
		for _, b := range l {
			if !trivia.Valid(a) || !trivia.Valid(b) || !trivia.Valid(a+b) {
				t.Fatalf("%q and %q are not trivia, or their concatenation is not", a, b)
			}
			want := slices.Concat(trivia.Comments(a), trivia.Comments(b))
			if got := trivia.Comments(a + b); !slices.Equal(got, want) {
				t.Fatalf("Comments(%q + %q) is %q, want %q", a, b, got, want)
			}
		}
	}
}

// P4.7: the whole of trivia is skipped, and what follows trivia begins with neither a blank nor a complete comment.
func TestValidAndEnd(t *testing.T) {
	for _, s := range allTexts() {
		end := trivia.End(s, 0)
		if trivia.Valid(s) != (end == len(s)) {
			t.Fatalf("Valid(%q) is %t, End %d", s, trivia.Valid(s), end)
		}
		rest := s[end:]
		if strings.HasPrefix(rest, " ") || strings.HasPrefix(rest, "\t") || strings.HasPrefix(rest, "\n") {
			t.Fatalf("End(%q, 0) is %d, before a blank", s, end)
		}
		if strings.HasPrefix(rest, "//") && strings.Contains(rest, "\n") {
			t.Fatalf("End(%q, 0) is %d, before a complete comment", s, end)
		}
	}
}

// lastLine returns the line number of the end of s.
func lastLine(t *testing.T, s string) int {
	line, _, e := lines.Position(s, len(s))
	if e != api.OK {
		t.Fatalf("Position(%q) of its end returns %d", s, e)
	}
	return line
}

// P4.8: shifted trivia is trivia with the same comments. Its end is on the same line: the number of lines is that of line numbers, because tabs behind a last line feed make up a line of layer 1.
func TestShiftOfTrivia(t *testing.T) {
	l := append(triviaTexts(), longTexts()...)
	for _, s := range l {
		if !trivia.Valid(s) {
			continue
		}
		for _, by := range []int{math.MinInt, -60, -2, -1, 0, 1, 7, 60, math.MaxInt} {
			if len(s) > 1000 && by > 7 {
				continue
			}
			got := trivia.Shift(s, by)
			if !trivia.Valid(got) {
				t.Fatalf("Shift(%q, %d) is %q, which is not trivia", s, by, got)
			}
			if !slices.Equal(trivia.Comments(got), trivia.Comments(s)) {
				t.Fatalf("Shift(%q, %d) is %q, with other comments", s, by, got)
			}
			if strings.Count(got, "\n") != strings.Count(s, "\n") || lastLine(t, got) != lastLine(t, s) {
				t.Fatalf("Shift(%q, %d) is %q, with another number of lines", s, by, got)
			}
		}
	}
}

// P4.8: shifted and shifted back, trivia is as before.
func TestShiftAndBack(t *testing.T) {
	for _, s := range append(triviaTexts(), longTexts()...) {
		if len(s) > 1000 || !trivia.Valid(s) {
			continue
		}
		for n := 0; n <= api.MaxDepth; n++ {
			if got := trivia.Shift(trivia.Shift(s, n), -n); got != s {
				t.Fatalf("%q shifted by %d and back is %q", s, n, got)
			}
		}
	}
}

package lines_test

import (
	"math"
	"slices"
	"strings"
	"testing"

	"treemerge/api"
	"treemerge/lines"
)

// texts returns all strings of at most n of the given bytes. The bytes contain the two of ä, so that characters of more than one byte, and halves of them, occur next to line feeds.
func texts(n int) []string {
	all := []string{""}
	last := []string{""}
	for range n {
		var next []string
		for _, s := range last {
			for _, c := range []byte("a\n \xc3\xa4") {
				next = append(next, s+string([]byte{c}))
			}
		}
		all = append(all, next...)
		last = next
	}
	return all
}

// place returns the position of an offset by the words of the definition.
func place(s string, at int) [2]int {
	before := s[:at]
	return [2]int{1 + strings.Count(before, "\n"), 1 + len(before) - (strings.LastIndex(before, "\n") + 1)}
}

// P1.1: the lines, in order, line feeds included, and how many they are.
func TestSplitAndCount(t *testing.T) {
	for _, x := range []struct {
		text string
		want []string
	}{
		{"", nil},
		{"a", []string{"a"}},
		{"a\nb", []string{"a\n", "b"}},
		{"a\n", []string{"a\n"}},
		{"\n", []string{"\n"}},
		{"\n\n", []string{"\n", "\n"}},
		{"\n\na", []string{"\n", "\n", "a"}},
		{"a\n\nb\n", []string{"a\n", "\n", "b\n"}},
		{"a\r\nb\rc", []string{"a\r\n", "b\rc"}},
		{"a\vb\fc\u0085d\u2028e", []string{"a\vb\fc\u0085d\u2028e"}},
		{"a\x00\n\x00", []string{"a\x00\n", "\x00"}},
		{"ä\nö", []string{"ä\n", "ö"}},
		{"\xc3\n\xff", []string{"\xc3\n", "\xff"}},
		{" \n\t", []string{" \n", "\t"}},
	} {
		if l := lines.Split(x.text); !slices.Equal(l, x.want) {
			t.Errorf("Split(%q) = %q, want %q", x.text, l, x.want)
		}
		if n := lines.Count(x.text); n != len(x.want) {
			t.Errorf("Count(%q) = %d, want %d", x.text, n, len(x.want))
		}
	}
}

// P1.1: Count is the number of the lines that Split returns, and each of them is not empty.
func TestCountIsThatOfSplit(t *testing.T) {
	for _, s := range texts(5) {
		l := lines.Split(s)
		if n := lines.Count(s); n != len(l) {
			t.Errorf("Count(%q) = %d, want %d", s, n, len(l))
		}
		if slices.Contains(l, "") {
			t.Errorf("Split(%q) = %q contains an empty line", s, l)
		}
	}
}

// R3: the lines are new memory in every call.
func TestSplitIsNewMemory(t *testing.T) {
	s := "a\nb\n"
	lines.Split(s)[0] = "x"
	if l := lines.Split(s); !slices.Equal(l, []string{"a\n", "b\n"}) {
		t.Errorf("Split(%q) = %q", s, l)
	}
}

// P1.2: the concatenation, whatever the elements are.
func TestJoin(t *testing.T) {
	for _, x := range []struct {
		list []string
		want string
	}{
		{nil, ""},
		{[]string{}, ""},
		{[]string{""}, ""},
		{[]string{"", ""}, ""},
		{[]string{"a"}, "a"},
		{[]string{"a", "b"}, "ab"},
		{[]string{"a\n", "b"}, "a\nb"},
		{[]string{"b", "a", "b"}, "bab"},
		{[]string{"\n\nx\n", "", "\n"}, "\n\nx\n\n"},
		{[]string{"\xc3", "\xa4"}, "ä"},
		{[]string{"\xff", "\x00"}, "\xff\x00"},
	} {
		before := slices.Clone(x.list)
		if s := lines.Join(x.list); s != x.want {
			t.Errorf("Join(%q) = %q, want %q", x.list, s, x.want)
		}
		if !slices.Equal(x.list, before) {
			t.Errorf("Join has changed %q to %q", before, x.list)
		}
	}
}

// P1.3: the examples of the chapter.
func TestPositionOfExamples(t *testing.T) {
	for _, x := range []struct {
		text             string
		at, line, column int
	}{
		{"ab\nc", 0, 1, 1},
		{"ab\nc", 2, 1, 3},
		{"ab\nc", 3, 2, 1},
		{"ab\nc", 4, 2, 2},
		{"a\n", 2, 2, 1},
		{"", 0, 1, 1},
		{"\n\n", 1, 2, 1},
		{"\n\n", 2, 3, 1},
		{"äb", 1, 1, 2},
		{"äb", 2, 1, 3},
		{"ä\nä", 4, 2, 2},
	} {
		if l, c, e := lines.Position(x.text, x.at); l != x.line || c != x.column || e != api.OK {
			t.Errorf("Position(%q, %d) = %d, %d, %d, want %d, %d, OK", x.text, x.at, l, c, e, x.line, x.column)
		}
	}
}

// P1.3: the definition of positions, for every offset.
func TestPositionOfEveryOffset(t *testing.T) {
	for _, s := range texts(5) {
		for at := 0; at <= len(s); at++ {
			want := place(s, at)
			if l, c, e := lines.Position(s, at); l != want[0] || c != want[1] || e != api.OK {
				t.Errorf("Position(%q, %d) = %d, %d, %d, want %d, OK", s, at, l, c, e, want)
			}
		}
	}
}

// P1.3: other offsets are out of range.
func TestPositionOutOfRange(t *testing.T) {
	for _, s := range []string{"", "a", "a\n", "\n", "ab\nc", "ä"} {
		for _, at := range []int{-1, -2, len(s) + 1, len(s) + 2, math.MaxInt, math.MinInt} {
			if l, c, e := lines.Position(s, at); l != 0 || c != 0 || e != api.ErrRange {
				t.Errorf("Position(%q, %d) = %d, %d, %d, want 0, 0, ErrRange", s, at, l, c, e)
			}
		}
	}
}

// P1.4: the examples of the chapter.
func TestOffsetOfExamples(t *testing.T) {
	for _, x := range []struct {
		text             string
		line, column, at int
	}{
		{"ab\n", 2, 1, 3},
		{"ab\n", 1, 3, 2},
		{"a\nbc", 2, 3, 4},
		{"a\nbc", 1, 2, 1},
		{"", 1, 1, 0},
		{"\n\n", 3, 1, 2},
		{"ä\nä", 2, 3, 5},
	} {
		if at, e := lines.Offset(x.text, x.line, x.column); at != x.at || e != api.OK {
			t.Errorf("Offset(%q, %d, %d) = %d, %d, want %d, OK", x.text, x.line, x.column, at, e, x.at)
		}
	}
}

// P1.4: positions that no offset has, among them the examples of the chapter.
func TestOffsetOutOfRange(t *testing.T) {
	for _, x := range []struct {
		text         string
		line, column int
	}{
		{"ab\n", 1, 4},
		{"ab\n", 2, 2},
		{"ab\n", 3, 1},
		{"a\nbc", 1, 3},
		{"a\nbc", 2, 4},
		{"a\nbc", 3, 1},
		{"a\nbc", 0, 1},
		{"a\nbc", 1, 0},
		{"a\nbc", 2, 0},
		{"a\nbc", 2, -1},
		{"a\nbc", -1, 1},
		{"", 1, 2},
		{"", 2, 1},
		{"", 0, 0},
	} {
		if at, e := lines.Offset(x.text, x.line, x.column); at != 0 || e != api.ErrRange {
			t.Errorf("Offset(%q, %d, %d) = %d, %d, want 0, ErrRange", x.text, x.line, x.column, at, e)
		}
	}
	extremes := []int{math.MinInt, math.MinInt + 1, math.MaxInt - 1, math.MaxInt}
	for _, s := range []string{"", "a\nbc", "\n"} {
		for _, x := range extremes {
			for _, y := range append([]int{1, 2}, extremes...) {
				if at, e := lines.Offset(s, x, y); at != 0 || e != api.ErrRange {
					t.Errorf("Offset(%q, %d, %d) = %d, %d, want 0, ErrRange", s, x, y, at, e)
				}
				if at, e := lines.Offset(s, y, x); at != 0 || e != api.ErrRange {
					t.Errorf("Offset(%q, %d, %d) = %d, %d, want 0, ErrRange", s, y, x, at, e)
				}
			}
		}
	}
}

// P1.4: an offset for the positions that there are, ErrRange for all others.
func TestOffsetOfEveryPosition(t *testing.T) {
	for _, s := range texts(4) {
		offsets := map[[2]int]int{}
		for at := 0; at <= len(s); at++ {
			offsets[place(s, at)] = at
		}
		for line := -1; line <= len(s)+3; line++ {
			for column := -1; column <= len(s)+3; column++ {
				want, ok := offsets[[2]int{line, column}]
				wantErr := api.ErrRange
				if ok {
					wantErr = api.OK
				}
				if at, e := lines.Offset(s, line, column); at != want || e != wantErr {
					t.Errorf("Offset(%q, %d, %d) = %d, %d, want %d, %d", s, line, column, at, e, want, wantErr)
				}
			}
		}
	}
}

// P1.5: spaces and tabs at the beginning, and nothing else.
func TestIndent(t *testing.T) {
	for _, x := range []struct{ text, want string }{
		{"", ""},
		{" \tx", " \t"},
		{"x", ""},
		{"x  ", ""},
		{" ", " "},
		{"\t \t", "\t \t"},
		{"  x  y", "  "},
		{"\n ", ""},
		{" \n ", " "},
		{" \r\n", " "},
		{"\v\f", ""},
		{" \u00a0x", " "},
		{"\t\u2003x", "\t"},
		{" \xff", " "},
		{"\x00 ", ""},
		{" ä", " "},
	} {
		if s := lines.Indent(x.text); s != x.want {
			t.Errorf("Indent(%q) = %q, want %q", x.text, s, x.want)
		}
	}
}

// P1.6: the lines make up the string, and each ends with its only line feed, which the last one may lack.
func TestLinesRoundTrip(t *testing.T) {
	for _, s := range texts(5) {
		l := lines.Split(s)
		if got := lines.Join(l); got != s {
			t.Errorf("Join(Split(%q)) = %q", s, got)
		}
		for i, x := range l {
			at := strings.Index(x, "\n")
			if at != len(x)-1 && (at >= 0 || i < len(l)-1) {
				t.Errorf("Split(%q) = %q, in which line %d is malformed", s, l, i)
			}
		}
	}
}

// P1.7: the offset of the position of an offset is this offset.
func TestOffsetOfPosition(t *testing.T) {
	for _, s := range append(texts(5), "fn f() int {\n\treturn 1; // ä\n}\n") {
		for at := 0; at <= len(s); at++ {
			l, c, e := lines.Position(s, at)
			if e != api.OK {
				t.Fatalf("Position(%q, %d) returns %d", s, at, e)
			}
			if got, e := lines.Offset(s, l, c); got != at || e != api.OK {
				t.Errorf("Offset(%q, %d, %d) = %d, %d, want %d, OK", s, l, c, got, e, at)
			}
		}
	}
}

// P1.8: behind whole lines, the lines of a second string follow unchanged.
func TestSplitOfConcatenation(t *testing.T) {
	short := texts(3)
	for _, a := range short {
		if a != "" && !strings.HasSuffix(a, "\n") {
			continue
		}
		for _, b := range short {
			want := append(lines.Split(a), lines.Split(b)...)
			if got := lines.Split(a + b); !slices.Equal(got, want) {
				t.Errorf("Split(%q + %q) = %q, want %q", a, b, got, want)
			}
		}
	}
}

package name_test

import (
	"fmt"
	"maps"
	"regexp"
	"slices"
	"strings"
	"testing"

	"treemerge/api"
	"treemerge/name"
)

const (
	letters   = "abcdefghijklmnopqrstuvwxyzABCDEFGHIJKLMNOPQRSTUVWXYZ"
	digits    = "0123456789"
	wordBytes = letters + digits + "_"
)

var keywords = []string{"fn", "class", "const", "let", "return", "if", "else", "while", "new", "self", "true", "false"}

// strangers are characters and bytes that are neither names nor parts of paths, although many of them are letters or digits elsewhere, or have such a byte as the low one of their rune.
var strangers = []string{
	"ä", "ß", "é", "λ", "Я", "א", "中", "ａ", "Ａ", "０", "＿", "٣", "²", "½", "ª", "Ⅷ", "\u212a", "\u017f", "𝐚", "𝟘", "\u0161", "\u0141", "\u0130", "\u015f", "\u012d", "\u012e", "\u012f", "\u2215", "\u2024", "\u2010", "\u203f",
	"\u0301", "\u200b", "\u200d", "\ufeff", "\ufffd", "\u2028", "\u0085", "\u00a0",
	"\x80", "\xff", "\xc3", "\xa4", "\xc1\xa1", "\xe0\x81\xa1", "\xed\xa0\x80", "\xf5\x80\x80\x80", "\xe1", "\xf0\x9d",
}

var (
	nameForm = regexp.MustCompile(`\A[A-Za-z_][A-Za-z_0-9]{0,31}\z`)
	pathForm = regexp.MustCompile(`\A[A-Za-z0-9_.-]+(/[A-Za-z0-9_.-]+)*\z`)
)

// wantName is the definition of a name, in other words.
func wantName(s string) bool {
	return nameForm.MatchString(s) && !slices.Contains(keywords, s)
}

// wantPath is the definition of a path, in other words.
func wantPath(s string) bool {
	if !pathForm.MatchString(s) || len(s) > 64 {
		return false
	}
	return !strings.Contains("/"+s+"/", "/./") && !strings.Contains("/"+s+"/", "/../")
}

// texts returns all strings of at most n of the given elements.
func texts(elements []string, n int) []string {
	all := []string{""}
	last := []string{""}
	for range n {
		var next []string
		for _, s := range last {
			for _, c := range elements {
				next = append(next, s+c)
			}
		}
		all = append(all, next...)
		last = next
	}
	return all
}

// bytesOf returns the 256 strings of one byte.
func bytesOf() []string {
	var l []string
	for c := range 256 {
		l = append(l, string([]byte{byte(c)}))
	}
	return l
}

// variants returns s with one element put in, removed or replaced, at each place, its beginnings and ends, and s in capital letters and twice.
func variants(s string, elements []string) []string {
	l := []string{s, strings.ToUpper(s), s + s}
	for i := range len(s) + 1 {
		for _, c := range elements {
			l = append(l, s[:i]+c+s[i:])
			if i < len(s) {
				l = append(l, s[:i]+c+s[i+1:])
			}
		}
		if i < len(s) {
			l = append(l, s[:i]+s[i+1:], s[:i], s[i:])
		}
	}
	return l
}

// P3.1: names, with the examples of the chapter.
func TestValid(t *testing.T) {
	for _, s := range []string{"a", "Z", "_", "__", "_1", "a_1", "A9", "int", "bool", "If", "FN", "fn_", "_fn", "fn1", "selfs", "end", "z0", "void", "for", strings.Repeat("a", 32), strings.Repeat("_", 32), "x" + strings.Repeat("9", 31)} {
		if !name.Valid(s) {
			t.Errorf("Valid(%q) is false", s)
		}
	}
	for _, s := range []string{"", "0", "9", "1a", "0_", "a-b", "a.b", "a/b", "a b", " a", "a ", "a\n", "\na", "a\x00", "\x00", "-", ".", "/", "@", "[", "`", "{", ":", "$a", "while", strings.Repeat("a", 33), strings.Repeat("a", 1000), strings.Repeat("a", 32) + "-", strings.Repeat("ä", 16)} {
		if name.Valid(s) {
			t.Errorf("Valid(%q) is true", s)
		}
	}
}

// P3.1: the keywords, and strings that are like them.
func TestKeyword(t *testing.T) {
	for _, s := range keywords {
		if !name.Keyword(s) {
			t.Errorf("Keyword(%q) is false", s)
		}
	}
	for _, s := range []string{"", "int", "bool", "f", "Fn", "IF", "selfs", "sel", " if", "if ", "if\n", "fn\x00", "fnclass", "fn class", "void", "for", "var", "func", "this", "null", "nil", "END", "break"} {
		if name.Keyword(s) {
			t.Errorf("Keyword(%q) is true", s)
		}
	}
	for _, k := range keywords {
		for _, s := range variants(k, append(bytesOf(), strangers...)) {
			if name.Keyword(s) != slices.Contains(keywords, s) {
				t.Errorf("Keyword(%q) is %t", s, name.Keyword(s))
			}
		}
	}
}

// P3.1: all strings of two bytes, and each byte and each foreign character at each place of names of several lengths, up to and beyond the limit.
func TestValidEverywhere(t *testing.T) {
	l := texts(bytesOf(), 2)
	for _, s := range []string{"a_1", "Zz", "if", "true", "fals", strings.Repeat("a", 30), strings.Repeat("b", 31), strings.Repeat("c", 32)} {
		l = append(l, variants(s, append(bytesOf(), strangers...))...)
	}
	for _, s := range append(l, strangers...) {
		if name.Valid(s) != wantName(s) {
			t.Fatalf("Valid(%q) is %t", s, name.Valid(s))
		}
	}
	for n := range 100 {
		if s := strings.Repeat("n", n); name.Valid(s) != (1 <= n && n <= api.MaxName) {
			t.Errorf("Valid of %d letters is %t", n, name.Valid(s))
		}
	}
}

// P3.2: paths, with the examples of the chapter.
func TestPath(t *testing.T) {
	for _, s := range []string{"a", "0", "_", "-", "a.tm", "lib/x-1.tm", "...", "....", ".a", "a.", "..a", "a..", ".-", "._", "a/...", ".../a", "-/-", "A_/0", "a/b/c/d", "while", "if/else", "a/.b/c..", strings.Repeat("a", 64), strings.Repeat("a/", 31) + "aa", strings.Repeat(".", 64)} {
		if !name.Path(s) {
			t.Errorf("Path(%q) is false", s)
		}
	}
	for _, s := range []string{"", "/", "//", "/a", "a/", "a//b", "a/b/", ".", "..", "./a", "../a", "a/.", "a/..", "a/./b", "a/../b", "a b", "a\\b", "a\n", "a\x00", "a:b", "a,b", "a+b", "~", "*", "a/\xff", "ä.tm", strings.Repeat("a", 65), strings.Repeat("a/", 32) + "a", strings.Repeat("/", 64), strings.Repeat("a", 1000)} {
		if name.Path(s) {
			t.Errorf("Path(%q) is true", s)
		}
	}
}

// P3.2: all short strings of the characters that matter to paths, all strings of two bytes, and each byte and each foreign character at each place of longer paths.
func TestPathEverywhere(t *testing.T) {
	l := append(texts([]string{"a", ".", "/", "-", "\n"}, 7), texts(bytesOf(), 2)...)
	for _, s := range []string{"lib/x-1.tm", "a/..b/c", "...", strings.Repeat("a/", 31), strings.Repeat("ab/", 21), strings.Repeat("x", 64)} {
		l = append(l, variants(s, append(bytesOf(), strangers...))...)
	}
	for _, s := range append(l, strangers...) {
		if name.Path(s) != wantPath(s) {
			t.Fatalf("Path(%q) is %t", s, name.Path(s))
		}
	}
	for n := range 200 {
		if s := strings.Repeat("n", n); name.Path(s) != (1 <= n && n <= api.MaxPath) {
			t.Errorf("Path of %d letters is %t", n, name.Path(s))
		}
	}
}

// candidates returns the first n candidates of base, by the words of the definition.
func candidates(base string, n int) []string {
	l := []string{base}
	for i := 2; len(l) < n; i++ {
		head := base
		for len(head)+len(fmt.Sprint(i)) > 32 {
			head = head[:len(head)-1]
		}
		l = append(l, fmt.Sprint(head, i))
	}
	return l
}

// firstFree returns the first element of l that is not taken.
func firstFree(l, taken []string) string {
	set := map[string]bool{}
	for _, s := range taken {
		set[s] = true
	}
	for _, s := range l {
		if !set[s] {
			return s
		}
	}
	panic("all candidates are taken")
}

// P3.3: the first candidate that is not taken, with the examples of the chapter.
func TestFresh(t *testing.T) {
	a30, a31, a32 := strings.Repeat("a", 30), strings.Repeat("a", 31), strings.Repeat("a", 32)
	for _, x := range []struct {
		base  string
		taken []string
		want  string
	}{
		{"f", nil, "f"},
		{"f", []string{}, "f"},
		{"f", []string{"g", "F", "", "f1", "f2", "ff", " f", "f ", "f\x00"}, "f"},
		{"f", []string{"f"}, "f2"},
		{"f", []string{"f", "f", "f"}, "f2"},
		{"f", []string{"g", "f2", "f"}, "f3"},
		{"f", []string{"f3", "f", "f4"}, "f2"},
		{"f", []string{"f", "f1", "f02", "f2 ", "F2", "2", "f2f"}, "f2"},
		{"f1", []string{"f1"}, "f12"},
		{"f2", []string{"f2", "f", "f3"}, "f22"},
		{"_", []string{"_"}, "_2"},
		{"int", []string{"int"}, "int2"},
		{"els", []string{"els"}, "els2"},
		{"e", []string{"é", "e"}, "e2"},
		{"f", []string{"", "-", "while", "\xff", "f2", "f", a32 + a32}, "f3"},
		{a30, []string{a30}, a30 + "2"},
		{a31, []string{a31}, a31 + "2"},
		{a32, []string{a32}, a31 + "2"},
		{a32, []string{a31}, a32},
		{a32, []string{a31 + "2"}, a32},
		{a32, []string{a32, a31 + "2"}, a31 + "3"},
		{a31 + "2", []string{a31 + "2"}, a31 + "3"},
		{a31 + "1", []string{a31 + "1", a31 + "2"}, a31 + "3"},
	} {
		if s, e := name.Fresh(x.base, x.taken); s != x.want || e != api.OK {
			t.Errorf("Fresh(%q, %q) is %q, %d; want %q", x.base, x.taken, s, e, x.want)
		}
	}
}

// P3.3: candidates whose numbers have more digits, for bases at and near the greatest length. Where a cut base ends with a digit, a number with more digits can lead to the same candidate as one with fewer: a base of 28 bytes that ends with 1 has the same one for 1001 and 11001.
func TestFreshNumbers(t *testing.T) {
	bases := []string{"f", "x1", "int"}
	for n := 28; n <= 32; n++ {
		bases = append(bases, strings.Repeat("b", n), strings.Repeat("b", n-3)+"111", strings.Repeat("_", n-1)+"9", "z"+strings.Repeat("2", n-1))
	}
	for _, base := range bases {
		all := candidates(base, 22000)
		for _, n := range []int{1, 2, 7, 8, 9, 10, 89, 97, 98, 99, 100, 997, 998, 999, 1000, 1001, 9997, 9998, 9999, 11000} {
			taken := slices.Clone(all[:n])
			want := firstFree(all, taken)
			if s, e := name.Fresh(base, taken); s != want || e != api.OK {
				t.Errorf("Fresh(%q) with %d taken is %q, %d; want %q", base, n, s, e, want)
			}
			slices.Reverse(taken)
			if s, e := name.Fresh(base, taken); s != want || e != api.OK {
				t.Errorf("Fresh(%q) with %d taken, reversed, is %q, %d; want %q", base, n, s, e, want)
			}
		}
	}
}

// P3.3: all choices of the first candidates, some of which occur twice among them.
func TestFreshChoices(t *testing.T) {
	for _, base := range []string{"f", "f1", strings.Repeat("a", 31), strings.Repeat("a", 31) + "2", strings.Repeat("a", 30) + "11", strings.Repeat("b", 32)} {
		all := candidates(base, 30)
		for chosen := range 1 << 12 {
			var taken []string
			for i := range 12 {
				if chosen>>i&1 != 0 {
					taken = append(taken, all[i])
				}
			}
			want := firstFree(all, taken)
			if s, e := name.Fresh(base, taken); s != want || e != api.OK {
				t.Fatalf("Fresh(%q, %q) is %q, %d; want %q", base, taken, s, e, want)
			}
		}
	}
}

// P3.3: bases that are no names; whether they are taken does not matter.
func TestFreshErrors(t *testing.T) {
	bad := append([]string{"", "1", "1a", "a-b", "a b", "a.b", "a/b", "f\n", "ä", "\xff", strings.Repeat("a", 33), strings.Repeat("a", 100)}, keywords...)
	for _, base := range append(bad, strangers...) {
		for _, taken := range [][]string{nil, {}, {base}, {"f", base + "2"}} {
			if s, e := name.Fresh(base, taken); s != "" || e != api.ErrName {
				t.Errorf("Fresh(%q, %q) is %q, %d", base, taken, s, e)
			}
		}
	}
}

// P3.4, P3.6: the sorted list of the elements, with the example of the chapter.
func TestInsert(t *testing.T) {
	for _, x := range []struct {
		list []string
		s    string
		want []string
	}{
		{nil, "", []string{""}},
		{[]string{}, "a", []string{"a"}},
		{[]string{"b", "a", "b"}, "c", []string{"a", "b", "c"}},
		{[]string{"b", "a", "b"}, "a", []string{"a", "b"}},
		{[]string{"b", "a", "b"}, "b", []string{"a", "b"}},
		{[]string{"a", "c"}, "b", []string{"a", "b", "c"}},
		{[]string{"b", "c"}, "a", []string{"a", "b", "c"}},
		{[]string{"a", "a", "a"}, "a", []string{"a"}},
		{[]string{"a", ""}, "", []string{"", "a"}},
		{[]string{"f10", "f9"}, "f", []string{"f", "f10", "f9"}},
		{[]string{"a", "B", "_", "0"}, "Z", []string{"0", "B", "Z", "_", "a"}},
		{[]string{"ab", "a", "a\x00", "a "}, "a\xff", []string{"a", "a\x00", "a ", "ab", "a\xff"}},
		{[]string{"\U00010000", "\uffff"}, "z", []string{"z", "\uffff", "\U00010000"}},
		{[]string{"ä", "\xff", "\x80"}, "\ufffd", []string{"\x80", "ä", "\ufffd", "\xff"}},
		{[]string{"e\u0301", "é"}, "e", []string{"e", "e\u0301", "é"}},
	} {
		if l := name.Insert(x.list, x.s); !slices.Equal(l, x.want) {
			t.Errorf("Insert(%q, %q) is %q, want %q", x.list, x.s, l, x.want)
		}
	}
}

// lists returns all lists of at most n of the given strings.
func lists(elements []string, n int) [][]string {
	all := [][]string{nil}
	last := [][]string{nil}
	for range n {
		var next [][]string
		for _, l := range last {
			for _, s := range elements {
				next = append(next, append(slices.Clone(l), s))
			}
		}
		all = append(all, next...)
		last = next
	}
	return all
}

// sorted returns the sorted list of the elements of l, by way of a map.
func sorted(l []string) []string {
	set := map[string]bool{}
	for _, s := range l {
		set[s] = true
	}
	return slices.Sorted(maps.Keys(set))
}

// P3.4, P3.6: all short lists: the result has the elements of both, is sorted, has each of them once, does not change when one is inserted again, nor with the order of two insertions.
func TestListsEverywhere(t *testing.T) {
	elements := []string{"", "a", "B", "ab", "\xff", "ä"}
	for _, l := range lists(elements, 4) {
		for _, s := range elements {
			once := name.Insert(l, s)
			if !slices.Equal(once, sorted(append(slices.Clone(l), s))) {
				t.Fatalf("Insert(%q, %q) is %q", l, s, once)
			}
			if twice := name.Insert(once, s); !slices.Equal(twice, once) {
				t.Fatalf("%q inserted twice into %q: %q", s, l, twice)
			}
			if name.Has(l, s) != slices.Contains(l, s) || !name.Has(once, s) {
				t.Fatalf("Has(%q, %q) is %t", l, s, name.Has(l, s))
			}
			for _, r := range elements {
				if here, there := name.Insert(once, r), name.Insert(name.Insert(l, r), s); !slices.Equal(here, there) {
					t.Fatalf("%q, then %q inserted into %q: %q; in the other order: %q", s, r, l, here, there)
				}
			}
		}
	}
}

// P3.4: elements of lists, with the examples of the chapter.
func TestHas(t *testing.T) {
	l := []string{"b", "a", "ab", "c", "a", "\xff", "A"}
	for i, s := range l {
		if !name.Has(l, s) || !name.Has(l[i:], s) || !name.Has(l[:i+1], s) {
			t.Errorf("Has(%q, %q) is false", l, s)
		}
	}
	for _, s := range []string{"", "B", "aa", "b ", "C", "\xfe", "\ufffd", "abc"} {
		if name.Has(l, s) {
			t.Errorf("Has(%q, %q) is true", l, s)
		}
	}
	if !name.Has([]string{"b", "a"}, "a") || name.Has(nil, "") || name.Has([]string{}, "") || !name.Has([]string{""}, "") {
		t.Error("Has of short lists")
	}
}

// P3.4: a long list, in descending order and with repetitions.
func TestLongLists(t *testing.T) {
	var l []string
	for i := range 3000 {
		l = append(l, fmt.Sprint("f", (3000-i)/2), strings.Repeat("x", i%40))
	}
	if got := name.Insert(l, "f1x"); !slices.Equal(got, sorted(append(slices.Clone(l), "f1x"))) {
		t.Error("Insert into a long list")
	}
	if !name.Has(l, "f0") || !name.Has(l, "f1500") || name.Has(l, "f1501") {
		t.Error("Has of a long list")
	}
}

// P3.4: the result of Insert is new memory, and no function changes its arguments, not even beyond their lengths.
func TestNewMemory(t *testing.T) {
	for _, original := range [][]string{nil, {"a"}, {"a", "b"}, {"b", "a", "b"}, {"c", "c"}} {
		for _, s := range []string{"a", "b", "z", ""} {
			whole := append(slices.Clone(original), "behind", "further")
			l := whole[:len(original)]
			result := name.Insert(l, s)
			want := slices.Clone(result)
			for i := range whole {
				whole[i] = "changed"
			}
			if !slices.Equal(result, want) {
				t.Errorf("the result of Insert(%q, %q) shares the memory of the argument", original, s)
			}
			copy(whole, original)
			copy(whole[len(original):], []string{"behind", "further"})
			other := name.Insert(l, s)
			for i := range result {
				result[i] = "changed"
			}
			_ = append(result, "more", "of", "them")
			if !slices.Equal(other, want) {
				t.Errorf("two results of Insert(%q, %q) share memory", original, s)
			}
			name.Fresh("b", l)
			name.Has(l, s)
			if !slices.Equal(whole, append(slices.Clone(original), "behind", "further")) {
				t.Errorf("the argument %q was changed: %q", original, whole)
			}
		}
	}
}

// P3.5: a fresh name is a name that is not taken, and the base itself if that is not taken.
func TestFreshNames(t *testing.T) {
	bases := []string{"f", "_", "int", "i", "fn_", "x9", strings.Repeat("q", 31), strings.Repeat("q", 32), "n" + strings.Repeat("0", 31)}
	for _, base := range bases {
		taken := []string{"", "1", "while", "\xff"}
		for range 300 {
			s, e := name.Fresh(base, taken)
			if e != api.OK || !name.Valid(s) || !wantName(s) || slices.Contains(taken, s) {
				t.Fatalf("Fresh(%q) with %d taken is %q, %d", base, len(taken), s, e)
			}
			if !slices.Contains(taken, base) && s != base {
				t.Fatalf("Fresh(%q) is %q", base, s)
			}
			taken = append([]string{s}, taken...)
		}
	}
}

// P3.7: no keyword is a name, in spite of its characters.
func TestKeywordsAreNoNames(t *testing.T) {
	for _, s := range keywords {
		if name.Valid(s) || !name.Keyword(s) {
			t.Errorf("Valid(%q) is %t, Keyword %t", s, name.Valid(s), name.Keyword(s))
		}
	}
}

// P3.7: a name with one more letter, digit or underscore is a name, unless it is too long or a keyword.
func TestLongerNames(t *testing.T) {
	for _, k := range append(slices.Clone(keywords), "int", "_", "a_1", strings.Repeat("a", 30), strings.Repeat("_", 31), strings.Repeat("Z", 32)) {
		for i := 1; i <= len(k); i++ {
			s := k[:i]
			if !name.Valid(s) {
				continue
			}
			for _, c := range wordBytes {
				longer := s + string(c)
				if want := len(longer) <= api.MaxName && !name.Keyword(longer); name.Valid(longer) != want {
					t.Errorf("Valid(%q) is %t", longer, !want)
				}
			}
		}
	}
}

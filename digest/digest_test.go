package digest_test

import (
	"encoding/binary"
	"fmt"
	"hash/fnv"
	"math"
	"slices"
	"strings"
	"testing"

	"treemerge/api"
	"treemerge/digest"
)

// zeroText is a string whose digest is 0. So is that of zeroText with a zero byte behind it.
const zeroText = "\xd5\x6b\xb9\x53\x42\x87\x08\x36"

// texts returns all strings of at most n of the given bytes, among them the least and the greatest one, and bytes that are no characters.
func texts(n int) []string {
	all := []string{""}
	last := []string{""}
	for range n {
		var next []string
		for _, s := range last {
			for _, c := range []byte("\x00\na\x7f\x80\xff") {
				next = append(next, s+string([]byte{c}))
			}
		}
		all = append(all, next...)
		last = next
	}
	return all
}

// numbers returns numbers whose bytes differ in many ways: single bits, single bytes, their complements, and those between them.
func numbers() []uint64 {
	all := []uint64{0, 0x0123456789abcdef, 0xfedcba9876543210, math.MaxInt64, math.MaxUint64}
	for i := range 64 {
		all = append(all, 1<<i, 1<<i-1, ^(uint64(1) << i))
	}
	for i := range 8 {
		for _, c := range []uint64{9, 10, 15, 16, 0x5a, 0xa5, 0xff} {
			all = append(all, c<<(8*i))
		}
	}
	return all
}

// sum returns the digest by another implementation of the same algorithm.
func sum(b []byte) uint64 {
	h := fnv.New64a()
	h.Write(b)
	return h.Sum64()
}

// mix returns the digest of two numbers by that implementation.
func mix(a, b uint64) uint64 {
	return sum(binary.BigEndian.AppendUint64(binary.BigEndian.AppendUint64(nil, a), b))
}

// P2.1: the digests of strings, with the examples of the chapter.
func TestSum(t *testing.T) {
	for _, x := range []struct {
		text string
		want uint64
	}{
		{"", 14695981039346656037},
		{"a", 12638187200555641996},
		{"b", 0xaf63df4c8601f1a5},
		{"ab", 0x089c4407b545986a},
		{"ba", 0x08a63307b54dd00c},
		{"foobar", 0x85944171f73967e8},
		{"\x00", 0xaf63bd4c8601b7df},
		{"\xff", 0xaf64724c8602eb6e},
		{"ä", 0x0ac21207b7181582},
		{zeroText, 0},
		{zeroText + "\x00", 0},
		{zeroText + "\x01", 1099511628211},
	} {
		if d := digest.Sum(x.text); d != x.want {
			t.Errorf("Sum(%q) = %#x, want %#x", x.text, d, x.want)
		}
	}
}

// P2.1: the digests of all short strings, and of long ones.
func TestSumOfManyTexts(t *testing.T) {
	all := texts(4)
	for c := range 256 {
		all = append(all, string([]byte{byte(c)}), "x"+string([]byte{byte(c)})+"y")
	}
	for _, n := range []int{7, 8, 9, 63, 64, 65, 1000, api.MaxText} {
		all = append(all, strings.Repeat("\xffz", n), strings.Repeat("\x00", n))
	}
	for _, s := range all {
		if d, want := digest.Sum(s), sum([]byte(s)); d != want {
			t.Errorf("Sum(%.20q) = %#x, want %#x", s, d, want)
		}
	}
}

// P2.1: the bytes of both numbers, the most significant one first.
func TestMix(t *testing.T) {
	for _, x := range []struct {
		a, b uint64
		text string
	}{
		{0, 0, "\x00\x00\x00\x00\x00\x00\x00\x00\x00\x00\x00\x00\x00\x00\x00\x00"},
		{0, 258, "\x00\x00\x00\x00\x00\x00\x00\x00\x00\x00\x00\x00\x00\x00\x01\x02"},
		{258, 0, "\x00\x00\x00\x00\x00\x00\x01\x02\x00\x00\x00\x00\x00\x00\x00\x00"},
		{0x6162636465666768, 0x696a6b6c6d6e6f70, "abcdefghijklmnop"},
		{math.MaxUint64, 1 << 63, "\xff\xff\xff\xff\xff\xff\xff\xff\x80\x00\x00\x00\x00\x00\x00\x00"},
	} {
		if d, want := digest.Mix(x.a, x.b), digest.Sum(x.text); d != want {
			t.Errorf("Mix(%#x, %#x) = %#x, want %#x", x.a, x.b, d, want)
		}
	}
	for _, a := range numbers() {
		for _, b := range numbers() {
			if d, want := digest.Mix(a, b), mix(a, b); d != want {
				t.Errorf("Mix(%#x, %#x) = %#x, want %#x", a, b, d, want)
			}
		}
	}
}

// P2.1: the order of the arguments matters.
func TestMixInBothOrders(t *testing.T) {
	all := numbers()
	for i, a := range all {
		for _, b := range all[:i] {
			if a != b && digest.Mix(a, b) == digest.Mix(b, a) {
				t.Errorf("Mix(%#x, %#x) does not depend on the order", a, b)
			}
		}
	}
}

// lists returns all lists of at most three of some strings. Many of them have the same concatenation.
func lists() [][]string {
	all := [][]string{nil}
	last := all
	for range 3 {
		var next [][]string
		for _, l := range last {
			for _, s := range []string{"", "a", "b", "ab", "ba", "\xff", "a\n"} {
				next = append(next, append(slices.Clone(l), s))
			}
		}
		all = append(all, next...)
		last = next
	}
	return all
}

// P2.1: the digests of lists. The elements of a list are not changed (R3).
func TestAll(t *testing.T) {
	l := lists()
	l = append(l, slices.Repeat([]string{"", "x"}, 300), []string{strings.Repeat("line\n", 1000)})
	for _, list := range l {
		want := uint64(14695981039346656037)
		for _, s := range list {
			want = mix(want, sum([]byte(s)))
		}
		want = mix(want, uint64(len(list)))
		before := slices.Clone(list)
		if d := digest.All(list); d != want {
			t.Errorf("All(%.40q) = %#x, want %#x", list, d, want)
		}
		if !slices.Equal(list, before) {
			t.Errorf("All has changed %.40q to %.40q", before, list)
		}
	}
}

// P2.1: an empty list and nil are equivalent (R3), and not a list of the empty string.
func TestAllOfNothing(t *testing.T) {
	want := digest.Mix(digest.Sum(""), 0)
	if d := digest.All(nil); d != want {
		t.Errorf("All(nil) = %#x, want %#x", d, want)
	}
	if d := digest.All([]string{}); d != want {
		t.Errorf("All of an empty list = %#x, want %#x", d, want)
	}
	if digest.All([]string{""}) == want {
		t.Error("a list of the empty string has the digest of the empty list")
	}
}

// P2.1: the order, the number and the limits of the elements count.
func TestAllOfDifferentLists(t *testing.T) {
	seen := map[uint64][]string{}
	for _, l := range lists() {
		d := digest.All(l)
		if other, ok := seen[d]; ok {
			t.Errorf("%q and %q have the same digest", l, other)
		}
		seen[d] = l
	}
}

// P2.2: the sixteen digits, with the examples of the chapter.
func TestHex(t *testing.T) {
	for _, x := range []struct {
		d    uint64
		want string
	}{
		{0, "0000000000000000"},
		{1, "0000000000000001"},
		{255, "00000000000000ff"},
		{1 << 63, "8000000000000000"},
		{math.MaxInt64, "7fffffffffffffff"},
		{math.MaxUint64, "ffffffffffffffff"},
		{0x0123456789abcdef, "0123456789abcdef"},
		{0xfedcba9876543210, "fedcba9876543210"},
		{digest.Sum("a"), "af63dc4c8601ec8c"},
		{digest.Sum(""), "cbf29ce484222325"},
	} {
		if s := digest.Hex(x.d); s != x.want {
			t.Errorf("Hex(%d) = %q, want %q", x.d, s, x.want)
		}
	}
	for _, d := range numbers() {
		if s, want := digest.Hex(d), fmt.Sprintf("%016x", d); s != want {
			t.Errorf("Hex(%d) = %q, want %q", d, s, want)
		}
	}
}

// P2.3: the number with the digits, with the examples of the chapter.
func TestParse(t *testing.T) {
	for _, x := range []struct {
		text string
		want uint64
	}{
		{"0000000000000000", 0},
		{"0000000000000001", 1},
		{"00000000000000ff", 255},
		{"8000000000000000", 1 << 63},
		{"7fffffffffffffff", math.MaxInt64},
		{"ffffffffffffffff", math.MaxUint64},
		{"0123456789abcdef", 0x0123456789abcdef},
		{"fedcba9876543210", 0xfedcba9876543210},
		{"af63dc4c8601ec8c", 12638187200555641996},
	} {
		if d, e := digest.Parse(x.text); d != x.want || e != api.OK {
			t.Errorf("Parse(%q) = %#x, %d, want %#x", x.text, d, e, x.want)
		}
	}
}

// wantSyntax reports it if Parse accepts s, or returns a number with the error (R2).
func wantSyntax(t *testing.T, s string) {
	t.Helper()
	if d, e := digest.Parse(s); d != 0 || e != api.ErrSyntax {
		t.Errorf("Parse(%.40q) = %#x, %d, want 0, ErrSyntax", s, d, e)
	}
}

// P2.3: all other strings are errors.
func TestParseOfMalformedTexts(t *testing.T) {
	for _, s := range []string{
		"", "ff", "00000000000000FF", "00000000000000fF", "FFFFFFFFFFFFFFFF",
		"+000000000000000", "-000000000000001", "0x000000000000ff", "0X000000000000FF", "0000_0000_0000_0",
		" 00000000000000f", "00000000000000f ", "0000000000000ff\n", "00000000 0000000", "0000000000000ff\x00",
		" 00000000000000ff", "00000000000000ff\n", "00000000000000ff\x00", "0x00000000000000ff",
		"00000000000000ä", "000000000000000ä", "000000000000000٠", "000000000000000０", "\xff\xff\xff\xff\xff\xff\xff\xff\xff\xff\xff\xff\xff\xff\xff\xff",
		"00000000000000fg", "zzzzzzzzzzzzzzzz", "                ",
	} {
		wantSyntax(t, s)
	}
}

// P2.3: the error does not depend on the place of the byte that is no digit, and every other byte is none.
func TestParseOfEveryByte(t *testing.T) {
	for i := range 16 {
		for c := range 256 {
			b := []byte("0123456789abcdef")
			b[i] = byte(c)
			s := string(b)
			if !strings.ContainsRune("0123456789abcdef", rune(c)) {
				wantSyntax(t, s)
				continue
			}
			var want uint64
			if _, err := fmt.Sscanf(s, "%x", &want); err != nil {
				t.Fatal(s, err)
			}
			if d, e := digest.Parse(s); d != want || e != api.OK {
				t.Errorf("Parse(%q) = %#x, %d, want %#x", s, d, e, want)
			}
		}
	}
}

// P2.3: digits of every other length are errors.
func TestParseOfEveryLength(t *testing.T) {
	for n := range 70 {
		if n == 16 {
			continue
		}
		for _, c := range []string{"0", "1", "f"} {
			wantSyntax(t, strings.Repeat(c, n))
		}
	}
	wantSyntax(t, strings.Repeat("0", api.MaxText))
}

// P2.4: Parse leads back from Hex, and Hex from whatever Parse accepts.
func TestHexAndParse(t *testing.T) {
	for _, d := range numbers() {
		s := digest.Hex(d)
		back, e := digest.Parse(s)
		if back != d || e != api.OK {
			t.Errorf("Parse(Hex(%d)) = %d, %d", d, back, e)
		}
	}
	for _, c := range "0123456789abcdefABCDEFgG+-_ x\n" {
		for i := range 16 {
			s := strings.Repeat("7", i) + string(c) + strings.Repeat("e", 15-i)
			d, e := digest.Parse(s)
			if e == api.OK && digest.Hex(d) != s {
				t.Errorf("Parse(%q) = %#x, whose form is %q", s, d, digest.Hex(d))
			}
		}
	}
}

// P2.5: a digest with one more byte follows from the one before it.
func TestStepOfSum(t *testing.T) {
	for _, s := range append(texts(3), zeroText, zeroText+"\x00") {
		for c := range 256 {
			want := (digest.Sum(s) ^ uint64(c)) * 1099511628211
			if d := digest.Sum(s + string([]byte{byte(c)})); d != want {
				t.Errorf("Sum(%q and the byte %d) = %#x, want %#x", s, c, d, want)
			}
		}
	}
}

// P2.5: the digest of a list follows from those of its elements: elements of the same digest can be exchanged.
func TestStepsOfAll(t *testing.T) {
	for _, list := range lists() {
		d := digest.Sum("")
		for _, s := range list {
			d = digest.Mix(d, digest.Sum(s))
		}
		if got, want := digest.All(list), digest.Mix(d, uint64(len(list))); got != want {
			t.Errorf("All(%q) = %#x, want %#x", list, got, want)
		}
		one := digest.All(append(slices.Clone(list), zeroText, "a"))
		two := digest.All(append(slices.Clone(list), zeroText+"\x00", "a"))
		if one != two {
			t.Errorf("%q with two strings of the digest 0 has the digests %#x and %#x", list, one, two)
		}
	}
}

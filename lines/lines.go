// Package lines is layer 1: lines and positions of a string (see shared/doc/01-lines.md).
//
// The loops below compare runes with the line feed. That also finds it in strings that are not valid UTF-8: no other encoding contains its byte, and an invalid byte is visited as a rune of its own.
package lines

import (
	"strings"

	"treemerge/api"
)

// Split returns the lines of s in order, line feeds included. The empty string has none.
func Split(s string) []string {
	var l []string
	start := 0
	for i, c := range s {
		if c == '\n' {
			l = append(l, s[start:i+1])
			start = i + 1
		}
	}
	if start < len(s) {
		l = append(l, s[start:])
	}
	return l
}

// Join returns the concatenation of the elements of l.
func Join(l []string) string {
	return strings.Join(l, "")
}

// Count returns the number of lines of s.
func Count(s string) int {
	n := 0
	for _, c := range s {
		if c == '\n' {
			n++
		}
	}
	if s != "" && s[len(s)-1] != '\n' {
		n++
	}
	return n
}

// Position returns the line number and the column of the offset at, or ErrRange if at is not from 0 to the length of s.
func Position(s string, at int) (int, int, api.Errno) {
	if at < 0 || at > len(s) {
		return 0, 0, api.ErrRange
	}
	line, start := 1, 0
	for i, c := range s[:at] {
		if c == '\n' {
			line++
			start = i + 1
		}
	}
	return line, at - start + 1, api.OK
}

// Offset returns the offset that has the position line, column, or ErrRange if there is none.
func Offset(s string, line, column int) (int, api.Errno) {
	current, start := 1, 0
	for i, c := range s {
		if c != '\n' {
			continue
		}
		if current == line {
			return offsetWithin(start, i, column)
		}
		current++
		start = i + 1
	}
	if current == line {
		return offsetWithin(start, len(s), column)
	}
	return 0, api.ErrRange
}

// offsetWithin returns the offset of a column among the offsets from start to end, which are those of one line number.
func offsetWithin(start, end, column int) (int, api.Errno) {
	if column < 1 || column > end-start+1 {
		return 0, api.ErrRange
	}
	return start + column - 1, api.OK
}

// Indent returns the longest beginning of s that consists of spaces and tabs only.
func Indent(s string) string {
	for i, c := range s {
		if c != ' ' && c != '\t' {
			return s[:i]
		}
	}
	return s
}

// Package word is layer 1: the names, numbers and string literals of a source.
// See ../shared/doc/01-word.md.
package word

import (
	"strconv"
	"strings"

	"surety/api"
)

const hexDigits = "0123456789abcdef"

// Key reports whether s is a key word.
func Key(s string) bool {
	switch s {
	case "let", "rec", "in", "fun", "if", "then", "else", "match", "with", "end",
		"true", "false", "int", "bool", "string", "unit", "list":
		return true
	}
	return false
}

// Name reports whether s is a right name.
func Name(s string) bool {
	if s == "" || len(s) > api.MaxName || !smallLetter(s[0]) {
		return false
	}
	for i := 1; i < len(s); i++ {
		if !nameByte(s[i]) {
			return false
		}
	}
	return !Key(s)
}

func smallLetter(c byte) bool { return 'a' <= c && c <= 'z' }

func nameByte(c byte) bool {
	return smallLetter(c) || 'A' <= c && c <= 'Z' || '0' <= c && c <= '9' || c == '_' || c == '\''
}

// Num returns the text of n.
func Num(n int64) string {
	text := strconv.FormatInt(n, 10)
	// The sign is replaced in the text, since the least number has no opposite.
	if digits, negative := strings.CutPrefix(text, "-"); negative {
		return "~" + digits
	}
	return text
}

// ParseNum returns the number whose text is s.
func ParseNum(s string) (int64, api.Errno) {
	text := s
	if digits, negative := strings.CutPrefix(s, "~"); negative {
		text = "-" + digits
	}
	n, err := strconv.ParseInt(text, 10, 64)
	// ParseInt also reads signs and leading zeros that no text of a number has;
	// Num writes each number in its only way.
	if err != nil || Num(n) != s {
		return 0, api.ErrText
	}
	return n, api.OK
}

// Quote returns the literal of s.
func Quote(s string) (string, api.Errno) {
	if len(s) > api.MaxStr {
		return "", api.ErrSize
	}
	literal := []byte{'"'}
	for i := range len(s) {
		literal = appendQuoted(literal, s[i])
	}
	return string(append(literal, '"')), api.OK
}

func appendQuoted(literal []byte, c byte) []byte {
	if plain(c) {
		return append(literal, c)
	}
	return append(literal, '\\', hexDigits[c>>4], hexDigits[c&15])
}

// plain reports whether c stands for itself in a literal.
func plain(c byte) bool {
	return 0x20 <= c && c <= 0x7e && c != '"' && c != '\\'
}

// Unquote returns the string whose literal is s.
func Unquote(s string) (string, api.Errno) {
	rest, opened := strings.CutPrefix(s, `"`)
	rest, closed := strings.CutSuffix(rest, `"`)
	if !opened || !closed {
		return "", api.ErrText
	}
	var text []byte
	for rest != "" {
		c, used := firstQuoted(rest)
		if used == 0 || len(text) == api.MaxStr {
			return "", api.ErrText
		}
		text = append(text, c)
		rest = rest[used:]
	}
	return string(text), api.OK
}

// firstQuoted returns the byte that the beginning of s denotes within a literal,
// and how many bytes of s denote it: none if no byte is written like that.
func firstQuoted(s string) (c byte, used int) {
	if plain(s[0]) {
		return s[0], 1
	}
	if s[0] != '\\' || len(s) < 3 {
		return 0, 0
	}
	high := strings.IndexByte(hexDigits, s[1])
	low := strings.IndexByte(hexDigits, s[2])
	if high < 0 || low < 0 {
		return 0, 0
	}
	c = byte(high<<4 | low)
	// A byte that stands for itself is not written in any other way.
	if plain(c) {
		return 0, 0
	}
	return c, 3
}

package lex

import (
	"strings"

	"lamplighter/api"
)

func keywords() map[string]struct{} {
	return map[string]struct{}{
		"stack": {}, "port": {}, "read": {}, "write": {}, "both": {},
		"func": {}, "main": {}, "on": {}, "prio": {},
		"if": {}, "else": {}, "while": {}, "return": {},
		"enable": {}, "disable": {}, "level": {}, "atomic": {},
		"u8": {}, "u16": {}, "u32": {}, "i32": {},
	}
}

// kindOf tells a keyword from another word.
func kindOf(word string, keys map[string]struct{}) int {
	if _, is := keys[word]; is {
		return api.TokKey
	}
	return api.TokWord
}

// The longer signs come first, so that the first one that fits is the longest.
var signs = [...]string{
	"<<", ">>", "==", "!=", "<=", ">=",
	"<", ">", "=", "+", "-", "*", "/", "%", "&", "|", "^", "~", "!",
	"(", ")", "{", "}", "[", "]", ",", ";",
}

// signLength is the length of the sign with which a text begins; 0 if it
// begins with none.
func signLength(s string) int {
	for _, sign := range signs {
		if strings.HasPrefix(s, sign) {
			return len(sign)
		}
	}
	return 0
}

// span counts the bytes at the beginning of a text that are of one sort.
func span(s string, fits func(byte) bool) int {
	for at := range len(s) {
		if !fits(s[at]) {
			return at
		}
	}
	return len(s)
}

func isWord(s string) bool {
	return s != "" && startsWord(s[0]) && span(s, inWord) == len(s)
}

func isBlank(b byte) bool {
	return b == ' ' || b == '\t' || b == '\r'
}

func isDigit(b byte) bool {
	return '0' <= b && b <= '9'
}

func isHexDigit(b byte) bool {
	return isDigit(b) || 'a' <= b && b <= 'f'
}

func startsWord(b byte) bool {
	return 'a' <= b && b <= 'z' || b == '_'
}

func inWord(b byte) bool {
	return startsWord(b) || isDigit(b)
}

// sticks reports whether a byte spoils a number that it follows.
func sticks(b byte) bool {
	return inWord(b) || 'A' <= b && b <= 'Z'
}

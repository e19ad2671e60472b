package lex

import (
	"strconv"
	"strings"

	"lamplighter/api"
)

// reader is a source that is being split into tokens.
type reader struct {
	next   state
	source string
	keys   map[string]struct{}
	at     int // the first byte that was not read yet
	line   int // the line of that byte
	start  int // where that line starts
	tokens []api.Token
	fault  api.Fault
}

// state reads a part of a source, and returns what is to be read next; nil at
// the end, and at a fault.
type state func(*reader) state

// between is where a token, or what separates tokens, may begin.
func between(r *reader) state {
	rest := r.rest()
	switch {
	case rest == "":
		return nil
	case rest[0] == '\n':
		return lineEnd
	case isBlank(rest[0]):
		return blanks
	case strings.HasPrefix(rest, "//"):
		return comment
	case startsWord(rest[0]):
		return word
	case strings.HasPrefix(rest, "0x"):
		return hexadecimal
	case isDigit(rest[0]):
		return decimal
	}
	return sign
}

func lineEnd(r *reader) state {
	r.at++
	r.line, r.start = r.line+1, r.at
	return between
}

func blanks(r *reader) state {
	r.at += span(r.rest(), isBlank)
	return between
}

// comment leaves the end of the line, which is not a part of it.
func comment(r *reader) state {
	r.at += span(r.rest(), func(b byte) bool { return b != '\n' })
	return between
}

func word(r *reader) state {
	text := r.first(span(r.rest(), inWord))
	return r.token(kindOf(text, r.keys), text, 0)
}

func hexadecimal(r *reader) state {
	return r.number(len("0x"), isHexDigit, 16)
}

func decimal(r *reader) state {
	return r.number(0, isDigit, 10)
}

func sign(r *reader) state {
	n := signLength(r.rest())
	if n == 0 {
		return r.wrong()
	}
	return r.token(api.TokSign, r.first(n), 0)
}

// rest is what was not read yet.
func (r *reader) rest() string {
	return r.source[r.at:]
}

// first is the next n bytes, as a text of their own: a token does not keep the
// whole source.
func (r *reader) first(n int) string {
	return strings.Clone(r.rest()[:n])
}

// number reads the digits behind a prefix of some length.
func (r *reader) number(prefix int, digit func(byte) bool, base int) state {
	rest := r.rest()
	end := prefix + span(rest[prefix:], digit)
	n, err := strconv.ParseUint(rest[prefix:end], base, 32)
	if err != nil || end < len(rest) && sticks(rest[end]) {
		return r.wrong()
	}
	return r.token(api.TokNumber, r.first(end), uint32(n))
}

// token takes the text of a token as read.
func (r *reader) token(kind int, text string, n uint32) state {
	r.tokens = append(r.tokens, api.Token{Kind: kind, Text: text, Line: r.line, Column: r.column(), N: n})
	r.at += len(text)
	return between
}

// wrong tells of the first byte that was not read yet.
func (r *reader) wrong() state {
	r.fault = api.Fault{Err: api.ErrText, Line: r.line, Column: r.column()}
	return nil
}

// column is that of the first byte that was not read yet.
func (r *reader) column() int {
	return r.at - r.start + 1
}

package lex_test

import (
	"slices"
	"strings"
	"testing"

	"lamplighter/api"
	"lamplighter/lex"
)

// valid is the sources that are split without an error.
func valid(t *testing.T) []string {
	t.Helper()
	l := slices.DeleteFunc(append(sources(), mixed()...), func(s string) bool {
		_, f := lex.All(s)
		return f != api.Fault{}
	})
	if len(l) < 3000 {
		t.Fatalf("only %d sources are valid", len(l))
	}
	return l
}

// placeless is tokens without their positions.
func placeless(l []api.Token) []api.Token {
	l = slices.Clone(l)
	for i := range l {
		l[i].Line, l[i].Column = 0, 0
	}
	return l
}

// TestP53Join: what is joined and split again gives the same tokens, except
// for their positions: all of them are in one line, one blank apart.
func TestP53Join(t *testing.T) {
	for _, s := range valid(t) {
		l, _ := lex.All(s)
		again, f := lex.All(lex.Join(l))
		if f != (api.Fault{}) || !slices.Equal(placeless(again), placeless(l)) {
			t.Fatalf("%q: %+v, joined %+v, %+v", s, l, again, f)
		}
		column := 1
		for _, k := range again {
			if k.Line != 1 || k.Column != column {
				t.Fatalf("%q: %+v is not in column %d", lex.Join(l), k, column)
			}
			column += len(k.Text) + 1
		}
	}
}

// TestP53JoinLong: what becomes too long by the blanks is an error.
func TestP53JoinLong(t *testing.T) {
	for n, want := range map[int]api.Errno{32768: api.OK, 32769: api.ErrLong, 65536: api.ErrLong} {
		l, _ := lex.All(strings.Repeat(";", n))
		if again, f := lex.All(lex.Join(l)); f.Err != want || want == api.OK && !slices.Equal(placeless(again), placeless(l)) {
			t.Errorf("%d signs: %d tokens, %+v", n, len(again), f)
		}
	}
}

// offset is where the byte at a line and a column is in a source.
func offset(s string, line, column int) int {
	at := column - 1
	for _, l := range strings.SplitAfter(s, "\n")[:line-1] {
		at += len(l)
	}
	return at
}

// TestP53Position: each Text is in the source at its position; the tokens
// follow each other, and what is between them separates tokens.
func TestP53Position(t *testing.T) {
	for _, s := range valid(t) {
		l, _ := lex.All(s)
		from := 0
		for _, k := range l {
			at := offset(s, k.Line, k.Column)
			if at < from || !strings.HasPrefix(s[at:], k.Text) || k.Text == "" {
				t.Fatalf("%q: %+v is not there", s, k)
			}
			if line, column := lex.Line(s, at); line != k.Line || column != k.Column {
				t.Fatalf("%q: Line of %+v is %d, %d", s, k, line, column)
			}
			if between := s[from:at]; gap.FindString(between) != between {
				t.Fatalf("%q: %q is ahead of %+v", s, between, k)
			}
			from = at + len(k.Text)
		}
		if gap.FindString(s[from:]) != s[from:] {
			t.Fatalf("%q: %q is at the end", s, s[from:])
		}
	}
}

// TestP53Kind: words and keywords are of the kind that Kind tells, and no other
// token is a word; what is no number has N 0.
func TestP53Kind(t *testing.T) {
	for _, s := range valid(t) {
		l, _ := lex.All(s)
		for _, k := range l {
			kind := lex.Kind(k.Text)
			if worded := k.Kind == api.TokWord || k.Kind == api.TokKey; worded && kind != k.Kind || !worded && kind != 0 {
				t.Fatalf("%q: Kind of %+v is %d", s, k, kind)
			}
			if k.Kind != api.TokNumber && k.N != 0 {
				t.Fatalf("%q: %+v has a number", s, k)
			}
		}
	}
}

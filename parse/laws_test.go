package parse_test

import (
	"fmt"
	"reflect"
	"slices"
	"strings"
	"testing"

	"lamplighter/api"
	"lamplighter/ast"
	"lamplighter/lex"
	"lamplighter/parse"
)

// TestP73Layout: blanks, line ends and comments between tokens change nothing
// but Lines, which are those of the first tokens.
func TestP73Layout(t *testing.T) {
	r := numbers(6)
	for _, p := range programs() {
		plain := written(&p, &r, false, false)
		first, f := parse.Parse(plain)
		if f != (api.Fault{}) {
			t.Fatalf("%q: %+v", plain, f)
		}
		for range 4 {
			s := written(&p, &r, true, false)
			gives(t, s, p)
			if again, _ := parse.Parse(s); !ast.Same(first, again) {
				t.Fatalf("%q and %q differ", plain, s)
			}
		}
	}
}

// TestP73Close: tokens without anything between them, where that is possible,
// are the same tree.
func TestP73Close(t *testing.T) {
	r := numbers(7)
	for _, p := range programs() {
		s := written(&p, &r, false, true)
		gives(t, closer(s), p)
	}
}

// closer leaves out the blanks that separate nothing.
func closer(s string) string {
	var text strings.Builder
	var last api.Token
	l, _ := lex.All(s)
	for _, k := range l {
		worded := func(t api.Token) bool { return t.Kind != api.TokSign }
		if last.Kind != 0 && (worded(last) == worded(k) || strings.HasSuffix(last.Text, "/")) {
			text.WriteByte(' ')
		}
		text.WriteString(k.Text)
		last = k
	}
	return text.String()
}

// TestP73Faults: a token that is not allowed is the same one in any layout.
func TestP73Faults(t *testing.T) {
	r := numbers(8)
	for _, row := range forms() {
		l := strings.Fields(row)
		for i := range l {
			k := slices.Clone(l)
			k[i] = r.one(pieces()...)
			_, plain := parse.Stmts(strings.Join(k, " "))
			_, lines := parse.Stmts(strings.Join(k, "\n"))
			if plain.Err != lines.Err || plain.Err == api.ErrSyntax && plain.Line != 0 &&
				strings.Count(strings.Join(k, " ")[:plain.Column-1], " ") != lines.Line-1 {
				t.Errorf("%q: %+v, %+v", k, plain, lines)
			}
		}
	}
}

// TestT6Apart: no two lists of a result share memory, also not what is behind
// their ends; nor do the results of two calls.
func TestT6Apart(t *testing.T) {
	r := numbers(9)
	for _, p := range programs()[:60] {
		s := written(&p, &r, false, false)
		got, _ := parse.Parse(s)
		before := fmt.Sprintf("%+v", got)
		spoilSpare(reflect.ValueOf(&got).Elem())
		if fmt.Sprintf("%+v", got) != before {
			t.Fatalf("%q: lists share memory", s)
		}
		spoil(reflect.ValueOf(&got).Elem())
		again, _ := parse.Parse(s)
		if fmt.Sprintf("%+v", again) != before {
			t.Fatalf("%q: results share memory", s)
		}
	}
}

// spoilSpare overwrites what is behind the end of each list.
func spoilSpare(v reflect.Value) {
	switch v.Kind() {
	case reflect.Struct:
		for i := range v.NumField() {
			spoilSpare(v.Field(i))
		}
	case reflect.Slice:
		for i := range v.Len() {
			spoilSpare(v.Index(i))
		}
		whole := v.Slice(0, v.Cap())
		for i := v.Len(); i < v.Cap(); i++ {
			spoil(whole.Index(i))
		}
	}
}

// spoil overwrites all that is in a value.
func spoil(v reflect.Value) {
	switch v.Kind() {
	case reflect.Struct:
		for i := range v.NumField() {
			spoil(v.Field(i))
		}
	case reflect.Slice:
		for i := range v.Len() {
			spoil(v.Index(i))
		}
	case reflect.Int:
		v.SetInt(-77)
	case reflect.Uint32:
		v.SetUint(77)
	case reflect.String:
		v.SetString("spoiled")
	case reflect.Bool:
		v.SetBool(!v.Bool())
	}
}

package parse_test

import (
	"maps"
	"slices"
	"strings"

	"lamplighter/api"
	"lamplighter/lex"
)

// grammar is that of the chapter; "expr" has no levels here, which decide on
// trees, and not on what is allowed.
const grammar = `
program = "stack" number ";" decl*
decl = type name [ "[" number "]" ] [ "=" number ( "," number )* ] ";"
 | "port" ( "read" | "write" | "both" ) name ";"
 | "func" name "(" [ type name ( "," type name )* ] ")" block
 | "main" block
 | "on" number "prio" number block
block = "{" stmt* "}"
stmts = stmt*
stmt = type name "=" expr ";"
 | name [ "[" expr "]" ] "=" expr ";"
 | name "(" [ expr ( "," expr )* ] ")" ";"
 | "if" "(" expr ")" block [ "else" block ]
 | "while" "(" expr ")" block
 | "return" expr ";"
 | ( "enable" | "disable" | "level" ) number ";"
 | "atomic" "(" name ( "," name )* ")" block
expr = unary ( operator unary )*
operator = "|" | "^" | "&" | "==" | "!=" | "<" | "<=" | ">" | ">=" | "<<" | ">>" | "+" | "-" | "*" | "/" | "%"
unary = ( "-" | "~" | "!" ) unary | primary
primary = number | name | name "[" expr "]" | name "(" [ expr ( "," expr )* ] ")" | type "(" expr ")" | "(" expr ")"
type = "u8" | "u16" | "u32" | "i32"
`

// places is a set of indexes of tokens.
type places map[int]struct{}

// matcher tells where the tokens that begin at one of some places may end.
type matcher func(from places) places

// recognizer holds a rule against tokens in all ways at once, and keeps the
// last place at which a token was looked at: all tokens ahead of it are
// allowed.
type recognizer struct {
	tokens []api.Token
	last   int
	words  []string // what is left of the grammar while it is read
	rules  map[string]matcher
}

// reference is made once: its rules do not depend on the tokens.
var reference = newRecognizer()

func newRecognizer() *recognizer {
	r := &recognizer{rules: map[string]matcher{}}
	for _, rule := range strings.Split(strings.ReplaceAll(strings.TrimSpace(grammar), "\n |", " |"), "\n") {
		r.words = strings.Fields(rule)
		name := r.words[0]
		r.words = r.words[2:]
		r.rules[name] = r.choice()
	}
	return r
}

// at reports whether the grammar goes on with one of some words.
func (r *recognizer) at(words ...string) bool {
	return len(r.words) > 0 && slices.Contains(words, r.words[0])
}

func (r *recognizer) word() string {
	w := r.words[0]
	r.words = r.words[1:]
	return w
}

func (r *recognizer) choice() matcher {
	l := []matcher{r.row()}
	for r.at("|") {
		r.word()
		l = append(l, r.row())
	}
	return func(from places) places {
		all := places{}
		for _, m := range l {
			maps.Copy(all, m(from))
		}
		return all
	}
}

func (r *recognizer) row() matcher {
	var l []matcher
	for len(r.words) > 0 && !r.at("|", ")", ")*", "]") {
		l = append(l, r.element())
	}
	return func(from places) places {
		for _, m := range l {
			from = m(from)
		}
		return from
	}
}

func (r *recognizer) element() matcher {
	w := r.word()
	switch w {
	case "(":
		m := r.choice()
		if r.word() == ")*" {
			return many(m)
		}
		return m
	case "[":
		m := r.choice()
		r.word()
		return func(from places) places {
			to := maps.Clone(from)
			maps.Copy(to, m(from))
			return to
		}
	case "name":
		return r.token(func(t api.Token) bool { return t.Kind == api.TokWord })
	case "number":
		return r.token(func(t api.Token) bool { return t.Kind == api.TokNumber })
	}
	if text := strings.Trim(w, `"`); text != w {
		return r.token(func(t api.Token) bool { return t.Text == text })
	}
	rule, starred := strings.CutSuffix(w, "*")
	m := func(from places) places {
		if len(from) == 0 { // a rule that is in itself has to end
			return from
		}
		return r.rules[rule](from)
	}
	if starred {
		return many(m)
	}
	return m
}

func many(m matcher) matcher {
	return func(from places) places {
		all := maps.Clone(from)
		for len(from) > 0 {
			from = m(from)
			maps.DeleteFunc(from, func(at int, _ struct{}) bool { _, known := all[at]; return known })
			maps.Copy(all, from)
		}
		return all
	}
}

func (r *recognizer) token(fits func(api.Token) bool) matcher {
	return func(from places) places {
		to := places{}
		for at := range from {
			r.last = max(r.last, at)
			if at < len(r.tokens) && fits(r.tokens[at]) {
				to[at+1] = struct{}{}
			}
		}
		return to
	}
}

// end is the position after the last byte.
func end(s string) (line, column int) {
	l := strings.Split(s, "\n")
	return len(l), len(l[len(l)-1]) + 1
}

// expected is the fault of a source by a rule of the grammar, if its tree is
// neither too great nor wrong in another way.
func expected(s, rule string) api.Fault {
	tokens, f := lex.All(s)
	if f.Err != api.OK {
		return f
	}
	r := reference
	r.tokens, r.last = tokens, 0
	to := r.rules[rule](places{0: {}})
	if _, whole := to[len(tokens)]; whole {
		return api.Fault{}
	}
	for at := range to {
		r.last = max(r.last, at) // the end would be allowed there
	}
	f.Err = api.ErrSyntax
	if r.last < len(tokens) {
		f.Line, f.Column = tokens[r.last].Line, tokens[r.last].Column
	} else {
		f.Line, f.Column = end(s)
	}
	return f
}

package lex_test

import (
	"math/big"
	"regexp"
	"slices"
	"strings"

	"lamplighter/api"
)

// keywords is those of the chapter.
func keywords() []string {
	return strings.Fields("stack port read write both func main on prio if else while return enable disable level atomic u8 u16 u32 i32")
}

// signs is those of the chapter.
func signs() []string {
	return strings.Fields("<< >> == != <= >= < > = + - * / % & | ^ ~ ! ( ) { } [ ] , ;")
}

// numbers is a fixed row of numbers that follow no plain pattern.
type numbers uint64

// below is the next number of the row, made one from 0 to n-1.
func (r *numbers) below(n int) int {
	*r = *r*6364136223846793005 + 1442695040888963407
	return int(*r>>36) % n
}

// one is one of some texts.
func (r *numbers) one(l ...string) string {
	return l[r.below(len(l))]
}

// The parts of a source, by what they begin with.
var (
	gap    = regexp.MustCompile(`^([ \t\r\n]|//[^\n]*)+`)
	word   = regexp.MustCompile(`^[a-z_][a-z_0-9]*`)
	number = regexp.MustCompile(`^(0x[0-9a-f]+|[0-9]+)`)
	sticky = regexp.MustCompile(`^[a-zA-Z0-9_]`)
)

// position is the line and the column behind a text.
func position(ahead string) (line, column int) {
	l := strings.Split(ahead, "\n")
	return len(l), len(l[len(l)-1]) + 1
}

// valued is the number that a text stands for, and whether it is a word.
func valued(text string) (uint32, bool) {
	base := 10
	if digits, hexadecimal := strings.CutPrefix(text, "0x"); hexadecimal {
		text, base = digits, 16
	}
	n, _ := new(big.Int).SetString(text, base)
	return uint32(n.Uint64()), n.BitLen() <= 32
}

// next is the token with which a text begins, without its position; one
// without a Kind if there is none.
func next(s string) api.Token {
	if text := word.FindString(s); slices.Contains(keywords(), text) {
		return api.Token{Kind: api.TokKey, Text: text}
	} else if text != "" {
		return api.Token{Kind: api.TokWord, Text: text}
	}
	if text := number.FindString(s); text != "" {
		n, fits := valued(text)
		if !fits || sticky.MatchString(s[len(text):]) {
			return api.Token{}
		}
		return api.Token{Kind: api.TokNumber, Text: text, N: n}
	}
	var best api.Token
	for _, text := range signs() {
		if strings.HasPrefix(s, text) && len(text) > len(best.Text) {
			best = api.Token{Kind: api.TokSign, Text: text}
		}
	}
	return best
}

// expected is what All should return, found by regular expressions.
func expected(s string) ([]api.Token, api.Fault) {
	if len(s) > 65536 {
		return nil, api.Fault{Err: api.ErrLong}
	}
	var l []api.Token
	for at := len(gap.FindString(s)); at < len(s); at += len(gap.FindString(s[at:])) {
		t := next(s[at:])
		t.Line, t.Column = position(s[:at])
		if t.Kind == 0 {
			return nil, api.Fault{Err: api.ErrText, Line: t.Line, Column: t.Column}
		}
		l = append(l, t)
		at += len(t.Text)
	}
	return l, api.Fault{}
}

// short calls f with all texts of up to n of some pieces.
func short(pieces []string, n int, f func(string)) {
	var grow func(s string, n int)
	grow = func(s string, n int) {
		f(s)
		for _, p := range pieces {
			if n > 0 {
				grow(s+p, n-1)
			}
		}
	}
	grow("", n)
}

// firmware is a source with all that a source may have.
const firmware = `// a lamp that is lit in the evening
stack 64;
u8 lit = 1;
	u16 hours[0x18] = 0,0x0f,65535; // since when
i32 _last_1=0xffffffff;
port both lamp;port read u_dark;` + "\r\n" + `port write led2;

func dim(u32 by, u8 most) {
	if (by >= most) { return by-most; } else { return (by<<2)|~by & !most; }
}
main{ level 15;	enable 31; disable 0;
	while(lit != 0) { atomic ( lit,hours ) { hours[lit % 24] = dim(u16(lit*2), 3) ^ 1; } }
}
on 3 prio 2 { lit = lamp>>1<=led2 == (hours[0]/2+1<4) > 2; }
//`

// sources is sources without errors: the firmware, and others put together of
// pieces.
func sources() []string {
	l := []string{"", " \t\r\n", "// only this", "x", firmware, strings.ReplaceAll(firmware, "\n", "\r\n")}
	r := numbers(5)
	pieces := slices.Concat(keywords(), signs(), []string{"x", "_", "u8x", "on_", "i3", "a0_9", "mainly"},
		[]string{"0", "7", "00012", "4294967295", "0x0", "0xffffffff", "0x00dead"})
	for range 400 {
		var s strings.Builder
		for range r.below(60) {
			s.WriteString(r.one(pieces...))
			s.WriteString(r.one(" ", " ", "\n", "\t", "\r", "  \n", "//\n", "// x \r = 0x\xff\n", "\n\n "))
		}
		l = append(l, s.String())
	}
	return l
}

// mixed is sources of pieces that are put together without separators, many of
// them with errors.
func mixed() []string {
	pieces := slices.Concat(keywords(), signs(), signs(), []string{" ", "\n", "\r", "\t", "//", "//\n"},
		[]string{"x", "_", "G", "e9", "0", "10", "0x", "ff", "0xg", "4294967296", "0x100000000", ".", "\x80", "é", "\x00"})
	r := numbers(6)
	var l []string
	for range 20000 {
		var s strings.Builder
		for range 1 + r.below(12) {
			s.WriteString(r.one(pieces...))
		}
		l = append(l, s.String())
	}
	return l
}

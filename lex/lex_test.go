package lex_test

import (
	"math"
	"slices"
	"strings"
	"testing"

	"lamplighter/api"
	"lamplighter/lex"
)

// sameTokens compares what a source is split into with the reference.
func sameTokens(t *testing.T, s string) {
	t.Helper()
	got, f := lex.All(s)
	want, wrong := expected(s)
	if !slices.Equal(got, want) || f != wrong {
		t.Fatalf("All(%.200q) = %+v, %+v; want %+v, %+v", s, got, f, want, wrong)
	}
}

// refused checks that a source has an error at a line and a column.
func refused(t *testing.T, s string, line, column int) {
	t.Helper()
	want := api.Fault{Err: api.ErrText, Line: line, Column: column}
	if got, f := lex.All(s); got != nil || f != want {
		t.Errorf("All(%.60q) = %d tokens, %+v; want %+v", s, len(got), f, want)
	}
}

// single checks that a source is one token, and nothing else.
func single(t *testing.T, want api.Token) {
	t.Helper()
	want.Line, want.Column = 1, 1
	if got, f := lex.All(want.Text); !slices.Equal(got, []api.Token{want}) || f != (api.Fault{}) {
		t.Errorf("All(%.60q) = %d tokens, %+v; want %.200v", want.Text, len(got), f, want)
	}
}

// TestP51Source: tokens of several lines, with their positions.
func TestP51Source(t *testing.T) {
	got, f := lex.All("stack 64; // words\r\n\tu8 lit=0x1f;\n\n  if(lit<<=2) {\r}//")
	want := []api.Token{
		{Kind: api.TokKey, Text: "stack", Line: 1, Column: 1},
		{Kind: api.TokNumber, Text: "64", Line: 1, Column: 7, N: 64},
		{Kind: api.TokSign, Text: ";", Line: 1, Column: 9},
		{Kind: api.TokKey, Text: "u8", Line: 2, Column: 2},
		{Kind: api.TokWord, Text: "lit", Line: 2, Column: 5},
		{Kind: api.TokSign, Text: "=", Line: 2, Column: 8},
		{Kind: api.TokNumber, Text: "0x1f", Line: 2, Column: 9, N: 31},
		{Kind: api.TokSign, Text: ";", Line: 2, Column: 13},
		{Kind: api.TokKey, Text: "if", Line: 4, Column: 3},
		{Kind: api.TokSign, Text: "(", Line: 4, Column: 5},
		{Kind: api.TokWord, Text: "lit", Line: 4, Column: 6},
		{Kind: api.TokSign, Text: "<<", Line: 4, Column: 9},
		{Kind: api.TokSign, Text: "=", Line: 4, Column: 11},
		{Kind: api.TokNumber, Text: "2", Line: 4, Column: 12, N: 2},
		{Kind: api.TokSign, Text: ")", Line: 4, Column: 13},
		{Kind: api.TokSign, Text: "{", Line: 4, Column: 15},
		{Kind: api.TokSign, Text: "}", Line: 4, Column: 17},
	}
	if !slices.Equal(got, want) || f != (api.Fault{}) {
		t.Errorf("got %+v, %+v", got, f)
	}
}

// TestP51Examples: the examples of the chapter.
func TestP51Examples(t *testing.T) {
	got, f := lex.All("x<<=2")
	want := []api.Token{
		{Kind: api.TokWord, Text: "x", Line: 1, Column: 1},
		{Kind: api.TokSign, Text: "<<", Line: 1, Column: 2},
		{Kind: api.TokSign, Text: "=", Line: 1, Column: 4},
		{Kind: api.TokNumber, Text: "2", Line: 1, Column: 5, N: 2},
	}
	if !slices.Equal(got, want) || f != (api.Fault{}) {
		t.Errorf("got %+v, %+v", got, f)
	}
	refused(t, "0x1G", 1, 1)
	refused(t, "4294967296", 1, 1)
}

// TestP51Kinds: the numbers of the kinds and of the errors are the document's.
func TestP51Kinds(t *testing.T) {
	if api.TokWord != 1 || api.TokKey != 2 || api.TokNumber != 3 || api.TokSign != 4 || api.ErrLong != 3 || api.ErrText != 11 {
		t.Error("the numbers of package api are others")
	}
}

// words is words that are no keywords, many of them nearly.
func words() []string {
	l := []string{"a", "z", "_", "__", "_0", "x9", "a_b_1", "g", "e5", "xff", "abcdefghijklmnopqrstuvwxyz_0123456789", "u", "u1", "u64", "i8", "i16", "i", "for", "in"}
	for _, k := range keywords() {
		l = append(l, k+"_", k+"0", k+"s", "_"+k, "x"+k, k+k)
	}
	return append(l, strings.Repeat("word_0", 10000))
}

// TestP51Words: words and keywords, alone and with others beside them.
func TestP51Words(t *testing.T) {
	if len(keywords()) != 21 {
		t.Fatalf("%d keywords", len(keywords()))
	}
	for _, w := range words() {
		single(t, api.Token{Kind: api.TokWord, Text: w})
	}
	for _, k := range keywords() {
		single(t, api.Token{Kind: api.TokKey, Text: k})
		sameTokens(t, k+"("+k+" "+k+"_\n"+k+"//"+k)
		refused(t, k+"A", 1, len(k)+1)
		refused(t, strings.ToUpper(k), 1, 1)
	}
	for _, s := range []string{"Lit", "A", "Z", "X1"} {
		refused(t, s, 1, 1)
	}
	refused(t, "camelCase", 1, 6)
}

// TestP51Numbers: numbers in decimal and in hexadecimal, up to the greatest.
func TestP51Numbers(t *testing.T) {
	for text, n := range map[string]uint32{
		"0": 0, "9": 9, "10": 10, "1234567890": 1234567890, "4294967295": math.MaxUint32, "4294967294": math.MaxUint32 - 1,
		"00": 0, "007": 7, "010": 10, "04294967295": math.MaxUint32, "000000000000000000000000000000001": 1,
		"0x0": 0, "0x9": 9, "0xa": 10, "0xf": 15, "0x10": 16, "0xffffffff": math.MaxUint32, "0x80000000": 1 << 31,
		"0x89abcdef": 0x89abcdef, "0x01234567": 0x1234567, "0x00ffffffff": math.MaxUint32, "0x000000000000000000000000": 0,
		strings.Repeat("0", 65536): 0, "0x" + strings.Repeat("0", 65533) + "b": 11,
	} {
		single(t, api.Token{Kind: api.TokNumber, Text: text, N: n})
	}
	for _, text := range []string{"2/3", "2//3", "0-1", "0x1f+0xf", "1;2", "1 2", "1\r2", "7\n0x8", "0xe+1", "1(", "0x0]"} {
		sameTokens(t, text)
		if _, f := lex.All(text); f != (api.Fault{}) {
			t.Errorf("All(%q): %+v", text, f)
		}
	}
}

// TestP51WrongNumbers: numbers that are too great, without a digit, or with
// something behind them that sticks to them, are wrong from their first byte
// on.
func TestP51WrongNumbers(t *testing.T) {
	for _, s := range []string{
		"4294967296", "4294967300", "5000000000", "04294967296", "42949672950", "18446744073709551616", "18446744073709551617", "99999999999999999999999999",
		"0x100000000", "0xfffffffff", "0x0100000000", "0x10000000000000000", "0x10000000000000001",
		strings.Repeat("1", 60000), "0x" + strings.Repeat("f", 60000),
		"0x", "0x ", "0x;", "0xg", "0xG", "0xA", "0xF", "0x_1", "0x-1", "0xx", "0x0x1", "0X1", "0X", "00x1", "10x1", "0x\n1", "0x\x80", "0x\x00",
		"1a", "1z", "1A", "1Z", "1G", "1_", "1_000", "0b1", "0o7", "1e5", "7u8", "0a", "0_", "4294967295a",
		"0x1g", "0x1z", "0x1A", "0x1F", "0x1Z", "0x1G", "0x1_", "0xffx", "0xffffffffF", "0xffffffff_",
	} {
		refused(t, s, 1, 1)
		refused(t, "x+"+s, 1, 3)
		refused(t, "// 0x\n\t"+s, 2, 2)
	}
	for s, column := range map[string]int{"1.5": 2, "1@": 2, "0x1'": 4, "1\x80": 2, "1é": 2, "0xf\"": 4, "1`": 2, "1:": 2} {
		refused(t, s, 1, column) // the number is none of those that are wrong: what follows it is
	}
}

// TestP51Signs: every sign alone, two and three of them beside each other, and
// the longest one of several.
func TestP51Signs(t *testing.T) {
	if len(signs()) != 27 {
		t.Fatalf("%d signs", len(signs()))
	}
	for _, s := range signs() {
		single(t, api.Token{Kind: api.TokSign, Text: s})
	}
	short(signs(), 3, func(s string) { sameTokens(t, s) })
	for s, want := range map[string]string{
		"<<=": "<< =", ">>=": ">> =", "<<<": "<< <", ">>>>": ">> >>", "===": "== =", "!==": "!= =", "!!=": "! !=", "<=>": "<= >", ">=<": ">= <", "=<=": "= <=", "=!=": "= !=",
		"&&": "& &", "||": "| |", "++": "+ +", "--": "- -", "**": "* *", "+=": "+ =", "|=": "| =", "=>": "= >", "->": "- >", "<>": "< >", "~=": "~ =", "=-": "= -",
		"< <": "< <", "= =": "= =", "! =": "! =", "/ /": "/ /", "<\n<": "< <", "/ / /": "/ / /", "/": "/", "*/": "* /", "/*": "/ *", "(])}": "( ] ) }",
	} {
		sameTokens(t, s)
		if got, _ := lex.All(s); lex.Join(got) != want {
			t.Errorf("All(%q) = %+v; want %s", s, got, want)
		}
	}
}

// TestP51Separators: what separates tokens, and what does not end a line.
func TestP51Separators(t *testing.T) {
	for s, want := range map[string]string{
		"": "", " ": "", "\t": "", "\n": "", "\r": "", "\r\n": "", "//": "", "//\n": "", "///": "", " // x": "", "// \xff\x00é": "",
		"a b": "a b", "a\tb": "a b", "a\nb": "a b", "a\rb": "a b", "ab": "ab", "a//\nb": "a b", "a//b\nc": "a c", "a// b\rc\nd": "a d", "a//\r": "a",
		"a / // b": "a /", "a ////b\n/": "a /", "a*//*\nb": "a * b", "1//2": "1", "x//y//z\nw": "x w", "// a\n// b\n\nc": "c", "a //": "a", "a // b": "a",
	} {
		sameTokens(t, s)
		if got, f := lex.All(s); lex.Join(got) != want || f != (api.Fault{}) {
			t.Errorf("All(%q) = %+v, %+v; want %q", s, got, f, want)
		}
	}
	for s, want := range map[string][2]int{
		"\rx": {1, 2}, "\r\r\rx": {1, 4}, "\nx": {2, 1}, "\r\nx": {2, 1}, "\n\rx": {2, 2}, "\n\n\n x": {4, 2}, "\t\tx": {1, 3}, "\n\tx": {2, 2},
		"//\nx": {2, 1}, "//\rx\nx": {2, 1}, "// é\n  x": {2, 3}, "//\n//\n//\n\t//\n\t x": {5, 3}, "\vx": {0, 0}, "\fx": {0, 0}, "\u2028x": {0, 0},
	} {
		sameTokens(t, s)
		if got, _ := lex.All(s); want[0] > 0 && (len(got) != 1 || got[0].Line != want[0] || got[0].Column != want[1]) {
			t.Errorf("All(%q) = %+v; want it at %v", s, got, want)
		}
	}
}

// TestP51Bytes: each byte alone, and ahead of, behind and between others.
func TestP51Bytes(t *testing.T) {
	begins := " \t\n\r" + "abcdefghijklmnopqrstuvwxyz_" + "0123456789" + "<>=+-*/%&|^~!(){}[],;"
	for b := range 256 {
		c := string([]byte{byte(b)})
		if strings.Contains(begins, c) {
			if _, f := lex.All(c); f != (api.Fault{}) {
				t.Errorf("All(%q): %+v", c, f)
			}
		} else {
			refused(t, c, 1, 1)
			refused(t, "u8 x;\n\t"+c+" y", 2, 2)
		}
		for _, around := range []string{"x", "7", "0x", "0xe", "+", "/", "//", "<", "=", " ", "\n", "\r", "u8"} {
			sameTokens(t, c+around)
			sameTokens(t, around+c)
			sameTokens(t, around+c+around)
			sameTokens(t, c+around+c)
		}
	}
}

// TestP51First: of several errors the first one counts, of whatever sort.
func TestP51First(t *testing.T) {
	refused(t, "x $ 0x @", 1, 3)
	refused(t, "x 0x $ @", 1, 3)
	refused(t, "99999999999 G", 1, 1)
	refused(t, "a\nb\n  ?\n4294967296", 3, 3)
	refused(t, "// ?\n4294967296 ?", 2, 1)
	refused(t, "a;\x80\x81", 1, 3)
	refused(t, "\r\n\r?", 2, 2)
	refused(t, firmware+"\n\n ?", strings.Count(firmware, "\n")+3, 2)
}

// TestP51Long: a source may have 2^16 bytes; one more, and its length counts
// ahead of every other error.
func TestP51Long(t *testing.T) {
	tooLong := api.Fault{Err: api.ErrLong}
	for _, piece := range []string{" ", "\n", ";", "a", "/", "0", "a ", "<", "\r", "==;", "\n;", "1+", "?", "\x80", "9"} {
		s := strings.Repeat(piece, 65537)
		for _, extra := range []int{1, 2, 7, len(s) - 65536} {
			if got, f := lex.All(s[:65536+min(extra, len(s)-65536)]); got != nil || f != tooLong {
				t.Errorf("%q: %d bytes: %d tokens, %+v", piece, 65536+extra, len(got), f)
			}
		}
		got, f := lex.All(s[:65536])
		switch piece {
		case "?", "\x80", "9":
			if got != nil || f != (api.Fault{Err: api.ErrText, Line: 1, Column: 1}) {
				t.Errorf("%q: %d tokens, %+v", piece, len(got), f)
			}
		default:
			if f != (api.Fault{}) {
				t.Errorf("%q: %+v", piece, f)
			}
		}
	}
	for _, piece := range []string{";", ";\n", "u8 "} {
		got, _ := lex.All(strings.Repeat(piece, 65536)[:65536])
		last := got[len(got)-1]
		if want := (65536 + len(piece) - 1) / len(piece); len(got) != want {
			t.Errorf("%q: %d tokens, want %d", piece, len(got), want)
		}
		if line, column := position(strings.Repeat(piece, len(got)-1)); last.Line != line || last.Column != column {
			t.Errorf("%q: the last one is %+v", piece, last)
		}
	}
}

// TestP51Short compares all short texts of some pieces with the reference.
func TestP51Short(t *testing.T) {
	short([]string{"0", "1", "x", "a", "g", "G", "_", "<", "=", "/", "!", " ", "\n", "\r", "\x80"}, 4, func(s string) { sameTokens(t, s) })
	short([]string{"0x", "4294967295", "4294967296", "ffffffff", "0", "u8", "//", "\n", ";"}, 4, func(s string) { sameTokens(t, s) })
}

// TestP51Mixed compares longer sources with the reference, with and without
// errors.
func TestP51Mixed(t *testing.T) {
	for _, s := range append(sources(), mixed()...) {
		sameTokens(t, s)
	}
}

// TestP51Cut compares the firmware cut off at each place with the reference,
// and with each of its bytes made wrong.
func TestP51Cut(t *testing.T) {
	for at := range len(firmware) {
		sameTokens(t, firmware[:at])
		sameTokens(t, firmware[at:])
		sameTokens(t, firmware[:at]+"$"+firmware[at+1:])
	}
}

// TestP51Own: what is returned is new memory, also beyond its length.
func TestP51Own(t *testing.T) {
	first, _ := lex.All(firmware)
	second, _ := lex.All(firmware)
	want := slices.Clone(second)
	whole := first[:cap(first)]
	for i := range whole {
		whole[i] = api.Token{Kind: -7, Text: "mine"}
	}
	third, _ := lex.All(firmware)
	if !slices.Equal(second, want) || !slices.Equal(third, want) {
		t.Error("tokens of several calls share memory")
	}
}

// TestP51Kind: keywords, other words, and what is not a word.
func TestP51Kind(t *testing.T) {
	for _, k := range keywords() {
		if got := lex.Kind(k); got != api.TokKey {
			t.Errorf("Kind(%q) = %d", k, got)
		}
		for _, s := range []string{strings.ToUpper(k), strings.ToUpper(k[:1]) + k[1:], " " + k, k + " ", k + "\n", k + ";", k + "//", k + "A", "0" + k, k + "-", k + " " + k} {
			if got := lex.Kind(s); got != 0 {
				t.Errorf("Kind(%q) = %d, want 0", s, got)
			}
		}
	}
	for _, w := range append(words(), strings.Repeat("w", 100000)) {
		if got := lex.Kind(w); got != api.TokWord {
			t.Errorf("Kind(%.60q) = %d", w, got)
		}
	}
	for _, s := range append(signs(), "", " ", "\n", "0", "7", "42", "0x1", "1a", "0_", "A", "Z", "a.b", "a b", "a+", "é", "\x80", "a\x80", "a\x00", "\x00", "//", "a{", "`", "a`", "a@", "[", "a:") {
		if got := lex.Kind(s); got != 0 {
			t.Errorf("Kind(%q) = %d, want 0", s, got)
		}
	}
	short([]string{"a", "z", "_", "0", "9", "A", " ", "u8", "on", "-"}, 4, func(s string) {
		want := 0
		if w := word.FindString(s); w == s && s != "" {
			want = next(s).Kind
		}
		if got := lex.Kind(s); got != want {
			t.Fatalf("Kind(%q) = %d, want %d", s, got, want)
		}
	})
}

// TestP52Join: all Texts with one blank between them, whatever they are.
func TestP52Join(t *testing.T) {
	text := func(l ...string) []api.Token {
		var tokens []api.Token
		for i, s := range l {
			tokens = append(tokens, api.Token{Kind: i - 1, Text: s, Line: -i, Column: i * 9, N: uint32(i)})
		}
		return tokens
	}
	for _, x := range []struct {
		l    []api.Token
		want string
	}{
		{nil, ""}, {[]api.Token{}, ""}, {text(""), ""}, {text("", ""), " "}, {text("", "x", ""), " x "},
		{text("x"), "x"}, {text("x", "<<", "=", "2"), "x << = 2"}, {text("//", "a b", "\n"), "// a b \n"}, {text("0x1G", "é\xff", " "), "0x1G é\xff  "},
		{make([]api.Token, 5), "    "},
	} {
		before := slices.Clone(x.l)
		if got := lex.Join(x.l); got != x.want {
			t.Errorf("Join(%+v) = %q, want %q", x.l, got, x.want)
		}
		if !slices.Equal(x.l, before) {
			t.Errorf("%+v became %+v", before, x.l)
		}
	}
	for _, s := range sources() {
		l, _ := lex.All(s)
		var texts []string
		for _, k := range l {
			texts = append(texts, k.Text)
		}
		if got := lex.Join(l); got != strings.Join(texts, " ") {
			t.Errorf("Join of the tokens of %q = %q", s, got)
		}
	}
}

// TestP52Line: the line and the column of an offset, at the edges of lines and
// of the text.
func TestP52Line(t *testing.T) {
	for _, x := range []struct {
		s            string
		at           int
		line, column int
	}{
		{"", 0, 1, 1}, {"", 1, 1, 1}, {"", -1, 1, 1}, {"", math.MaxInt, 1, 1}, {"", math.MinInt, 1, 1},
		{"abc", 0, 1, 1}, {"abc", 2, 1, 3}, {"abc", 3, 1, 4}, {"abc", 4, 1, 4}, {"abc", math.MaxInt, 1, 4}, {"abc", -1, 1, 1}, {"abc", math.MinInt, 1, 1},
		{"\n", 0, 1, 1}, {"\n", 1, 2, 1}, {"\n", 2, 2, 1}, {"\n", -1, 1, 1},
		{"ab\ncd", 1, 1, 2}, {"ab\ncd", 2, 1, 3}, {"ab\ncd", 3, 2, 1}, {"ab\ncd", 4, 2, 2}, {"ab\ncd", 5, 2, 3}, {"ab\ncd", 6, 2, 3}, {"ab\ncd", 1 << 40, 2, 3},
		{"a\n\n\nb", 2, 2, 1}, {"a\n\n\nb", 3, 3, 1}, {"a\n\n\nb", 4, 4, 1},
		{"a\rb\r\nc", 2, 1, 3}, {"a\rb\r\nc", 4, 1, 5}, {"a\rb\r\nc", 5, 2, 1}, {"\t\tx", 2, 1, 3},
		{"éa\xff\x00b", 1, 1, 2}, {"éa\xff\x00b", 2, 1, 3}, {"éa\xff\x00b", 5, 1, 6}, {"a\u2028b", 4, 1, 5}, {"a\v\fb", 3, 1, 4},
		{"// x\ny", 5, 2, 1}, {strings.Repeat("\n", 70000), 70000, 70001, 1}, {strings.Repeat("x", 70000), 70000, 1, 70001}, {strings.Repeat("\nx", 40000), 79999, 40001, 1},
	} {
		if line, column := lex.Line(x.s, x.at); line != x.line || column != x.column {
			t.Errorf("Line(%.20q, %d) = %d, %d; want %d, %d", x.s, x.at, line, column, x.line, x.column)
		}
	}
}

// TestP52LineEvery compares the positions of every offset of some texts with
// the reference.
func TestP52LineEvery(t *testing.T) {
	for _, s := range append(mixed()[:2000], firmware) {
		for at := -2; at <= len(s)+2; at++ {
			line, column := lex.Line(s, at)
			if l, c := position(s[:min(max(at, 0), len(s))]); line != l || column != c {
				t.Fatalf("Line(%q, %d) = %d, %d; want %d, %d", s, at, line, column, l, c)
			}
		}
	}
}

package code_test

import (
	"strings"
	"testing"

	"lamplighter/api"
	"lamplighter/code"
)

// TestP33ParseOfText: the text of an instruction is parsed as that instruction.
func TestP33ParseOfText(t *testing.T) {
	for _, x := range table() {
		for _, i := range x.valid() {
			if got, e := code.Parse(code.Text(i)); got != i || e != api.OK {
				t.Errorf("Parse(%q) = %v, %d; want %v", code.Text(i), got, e, i)
			}
		}
	}
}

// TestP33Different: no two instructions have the same text.
func TestP33Different(t *testing.T) {
	seen := map[string]api.Ins{}
	for _, x := range table() {
		for _, i := range x.valid() {
			if j, is := seen[code.Text(i)]; is && i != j {
				t.Errorf("%v and %v have the text %q", i, j, code.Text(i))
			}
			seen[code.Text(i)] = i
		}
	}
}

// texts is the text of an instruction of each Op and operator, and of others
// at the edges.
func texts() []string {
	l := []string{"push 4294967295", "push 10", "ldx 1048576 1", "stx 0 1048576 16", "stx 1048576 1048576 32", "lvl 15", "en 31"}
	for _, x := range table() {
		for _, i := range x.valid()[:1] {
			l = append(l, x.text(i))
		}
	}
	for _, s := range signs() {
		l = append(l, "bin "+s)
	}
	for _, s := range names() {
		l = append(l, "un "+s)
	}
	return l
}

// sameParsed compares what a text is parsed as with the reference, and with
// the text of the instruction.
func sameParsed(t *testing.T, s string) {
	t.Helper()
	got, e := code.Parse(s)
	want, ok := parsed(s)
	if got != want || (e == api.OK) != ok || e != api.OK && e != api.ErrText {
		t.Fatalf("Parse(%q) = %v, %d; want %v, %v", s, got, e, want, ok)
	}
	if ok && (code.Check(got) != api.OK || code.Text(got) != s) {
		t.Fatalf("Parse(%q) = %v, whose text is %q", s, got, code.Text(got))
	}
}

// TestP33NoOther: of all texts that differ from one in a byte, in one more or
// in one less, those are accepted that are the text of an instruction.
func TestP33NoOther(t *testing.T) {
	const bytes = " \t\n\x00\x7f\xa0\xff0123456789+-*/%&|^<>=!s_.,xXahptbeiludjcrnmkvogzfw;"
	for _, s := range texts() {
		sameParsed(t, s)
		for at := range len(s) + 1 {
			for _, c := range []byte(bytes) {
				sameParsed(t, s[:at]+string([]byte{c})+s[at:])
				if at < len(s) {
					sameParsed(t, s[:at]+string([]byte{c})+s[at+1:])
				}
			}
			if at < len(s) {
				sameParsed(t, s[:at]+s[at+1:])
			}
		}
	}
}

// TestP33NoOtherParts: names and numbers put together in every way, each time
// with the blanks that belong between them, and with others.
func TestP33NoOtherParts(t *testing.T) {
	parts := []string{"0", "1", "8", "08", "15", "16", "31", "32", "1048576", "1048577", "4294967295", "4294967296", "+", "s<=", "neg", "-1", "+1", ""}
	for _, x := range append(table(), entry{name: "nop"}, entry{name: ""}, entry{name: "Pt"}) {
		sameParsed(t, x.name)
		for _, a := range parts {
			sameParsed(t, x.name+" "+a)
			sameParsed(t, x.name+"\t"+a)
			for _, b := range parts {
				sameParsed(t, strings.Join([]string{x.name, a, b}, " "))
				for _, c := range parts {
					sameParsed(t, strings.Join([]string{x.name, a, b, c}, " "))
				}
			}
		}
	}
}

// TestP33PushesOne: whatever is called, at most one word is pushed, and none
// by what has no effect.
func TestP33PushesOne(t *testing.T) {
	l := invalid()
	for _, x := range table() {
		l = append(l, x.valid()...)
	}
	for _, i := range l {
		for _, params := range [][]int{nil, {5}, {3, 2, 1, 0, 8, 8, 8, 8, 8, 8, 8, 8}} {
			_, gives, ok := code.Effect(i, params)
			if gives < 0 || gives > 1 || !ok && gives != 0 {
				t.Errorf("Effect(%v, %v): it pushes %d, %v", i, params, gives, ok)
			}
		}
	}
}

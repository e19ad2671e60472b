package show_test

import (
	"fmt"
	"reflect"
	"slices"
	"strings"

	"lamplighter/api"
)

// The operators of the chapter on parsing, from the weakest to the strongest,
// and those of the api in the same order.
const levels = "| ; ^ ; & ; == != ; < <= > >= ; << >> ; + - ; * / %"

var ops = [][]int{
	{api.BinOr}, {api.BinXor}, {api.BinAnd}, {api.BinEq, api.BinNe},
	{api.BinLt, api.BinLe, api.ExGt, api.ExGe}, {api.BinShl, api.BinShr},
	{api.BinAdd, api.BinSub}, {api.BinMul, api.BinDiv, api.BinRem},
}

// signAndLevel is the symbol and the level of an operator of ExBin; nothing of
// what is none.
func signAndLevel(op int) (string, int) {
	for level, l := range ops {
		if at := slices.Index(l, op); at >= 0 {
			return strings.Fields(strings.Split(levels, ";")[level])[at], level + 1
		}
	}
	return "", 0
}

// whole is the level of what is never taken apart.
const whole = 100

// listed is the texts of some expressions.
func listed(l []api.Expr) string {
	var texts []string
	for _, e := range l {
		texts = append(texts, exprText(e))
	}
	return strings.Join(texts, ", ")
}

// parts is the text of an expression, and how strong it is.
func parts(e api.Expr) (string, int) {
	switch e.Kind {
	case 1:
		return fmt.Sprint(e.N), whole
	case 2:
		return e.Name, whole
	case 3:
		return e.Name + "[" + listed(e.Args) + "]", whole
	case 4:
		return e.Name + "(" + listed(e.Args) + ")", whole
	case 5:
		return []string{"", "-", "~", "!"}[e.Op] + atLeast(e.Args[0], whole), whole
	case 6:
		sign, level := signAndLevel(e.Op)
		return atLeast(e.Args[0], level) + " " + sign + " " + atLeast(e.Args[1], level+1), level
	}
	return typeText(e.Type) + "(" + listed(e.Args) + ")", whole
}

// atLeast is the text of what must be that strong, or in parentheses.
func atLeast(e api.Expr, level int) string {
	s, strength := parts(e)
	if strength < level {
		return "(" + s + ")"
	}
	return s
}

// exprText is the text of a valid expression.
func exprText(e api.Expr) string {
	s, _ := parts(e)
	return s
}

func typeText(ty int) string {
	return strings.Fields("? u8 u16 u32 i32")[ty]
}

// form is one of the chapter's forms, with its first ? replaced by the first
// one of some texts, and so on.
func form(s string, texts ...any) string {
	return fmt.Sprintf(strings.ReplaceAll(s, "?", "%v"), texts...)
}

// within is the text of statements in a block: what is written for them by
// themselves, with two more blanks on each line.
func within(l []api.Stmt) string {
	var text strings.Builder
	for _, s := range l {
		for line := range strings.Lines(stmtText(s)) {
			text.WriteString("  " + line)
		}
	}
	return text.String()
}

// stmtText is the text of a valid statement.
func stmtText(s api.Stmt) string {
	e := ""
	if len(s.Expr) > 0 {
		e = exprText(s.Expr[0])
	}
	then := within(s.Then)
	switch {
	case s.Kind == 1:
		return form("? ? = ?;\n", typeText(s.Type), s.Name, e)
	case s.Kind == 2 && len(s.Index) == 0:
		return form("? = ?;\n", s.Name, e)
	case s.Kind == 2:
		return form("?[?] = ?;\n", s.Name, exprText(s.Index[0]), e)
	case s.Kind == 3:
		return form("?;\n", e)
	case s.Kind == 4 && len(s.Else) == 0:
		return form("if (?) {\n?}\n", e, then)
	case s.Kind == 4:
		return form("if (?) {\n?} else {\n?}\n", e, then, within(s.Else))
	case s.Kind == 5:
		return form("while (?) {\n?}\n", e, then)
	case s.Kind == 6:
		return form("return ?;\n", e)
	case s.Kind == 10:
		return form("atomic (?) {\n?}\n", strings.Join(s.Names, ", "), then)
	}
	return form("? ?;\n", []string{"enable", "disable", "level"}[s.Kind-7], s.N)
}

func globalText(g api.Global) string {
	s := typeText(g.Type) + " " + g.Name
	if g.Len != 0 {
		s = form("?[?]", s, g.Len)
	}
	for i, w := range g.Init {
		s = form("???", s, []string{" = ", ", "}[min(i, 1)], w)
	}
	return s + ";\n"
}

func declText(d api.Decl) string {
	body := within(d.Body)
	switch d.Kind {
	case 1:
		var l []string
		for _, p := range d.Params {
			l = append(l, typeText(p.Type)+" "+p.Name)
		}
		return form("func ?(?) {\n?}\n", d.Name, strings.Join(l, ", "), body)
	case 2:
		return form("main {\n?}\n", body)
	}
	return form("on ? prio ? {\n?}\n", d.On, d.Prio, body)
}

// programText is the text of a valid program.
func programText(p api.Program) string {
	l := []string{form("stack ?;\n", p.Stack)}
	for _, g := range p.Globals {
		l = append(l, globalText(g))
	}
	for _, g := range p.Gates {
		way := map[[2]bool]string{{true, false}: "read", {false, true}: "write", {true, true}: "both"}[[2]bool{g.Read, g.Write}]
		l = append(l, form("port ? ?;\n", way, g.Name))
	}
	for _, d := range p.Funcs {
		l = append(l, declText(d))
	}
	return strings.Join(l, "")
}

// copied is a copy that shares nothing with what it is made of, without empty
// lists.
func copied[T any](x T) T {
	v := reflect.New(reflect.TypeFor[T]()).Elem()
	copyInto(v, reflect.ValueOf(x))
	return v.Interface().(T)
}

func copyInto(to, from reflect.Value) {
	switch from.Kind() {
	case reflect.Slice:
		if from.Len() == 0 {
			return
		}
		to.Set(reflect.MakeSlice(from.Type(), from.Len(), from.Len()))
		for i := range from.Len() {
			copyInto(to.Index(i), from.Index(i))
		}
	case reflect.Struct:
		for i := range from.NumField() {
			copyInto(to.Field(i), from.Field(i))
		}
	default:
		to.Set(from)
	}
}

// vary changes one thing of a tree at a time, calls f with the way to it, and
// changes it back.
func vary[T any](x *T, f func(way string)) {
	varyAt(reflect.ValueOf(x).Elem(), "", f)
}

func varyAt(v reflect.Value, way string, f func(way string)) {
	try := func(x any) {
		before := reflect.New(v.Type()).Elem()
		before.Set(v)
		if v.Set(reflect.ValueOf(x).Convert(v.Type())); !reflect.DeepEqual(v.Interface(), before.Interface()) {
			f(fmt.Sprintf("%s = %v", way, x))
		}
		v.Set(before)
	}
	switch v.Kind() {
	case reflect.Struct:
		for i := range v.NumField() {
			varyAt(v.Field(i), way+"."+v.Type().Field(i).Name, f)
		}
	case reflect.Slice:
		varySlice(v, way, try, f)
	case reflect.Int:
		for _, n := range []int{-1 << 63, -1, 0, 1, 2, 3, 4, 5, 6, 7, 8, 9, 10, 11, 12, 13, 14, 15, 16, 17, 18, 19, 20, 21, 22, 31, 32, 4096, 4097, 65536, 65537, 1 << 40} {
			try(n)
		}
		try(int(v.Int()) + 1)
		try(int(v.Int()) - 1)
	case reflect.Uint32:
		try(uint32(0))
		try(uint32(v.Uint()) + 1)
	case reflect.String:
		for _, s := range []string{"", "x", "a", v.String() + "x", "if", "u8", "G", "0", "x y", "x\n"} {
			try(s)
		}
	case reflect.Bool:
		try(!v.Bool())
	}
}

// varySlice takes one element away, doubles it, exchanges it with the first
// one, and adds an empty one behind the last; and varies each.
func varySlice(v reflect.Value, way string, try func(any), f func(way string)) {
	one := reflect.MakeSlice(v.Type(), 1, 1)
	try(reflect.AppendSlice(v.Slice3(0, v.Len(), v.Len()), one).Interface())
	for i := range v.Len() {
		try(reflect.AppendSlice(v.Slice3(0, i, i), v.Slice(i+1, v.Len())).Interface())
		try(reflect.AppendSlice(v.Slice3(0, i+1, i+1), v.Slice(i, v.Len())).Interface())
		turned := reflect.AppendSlice(v.Slice3(0, 0, 0), v).Interface()
		reflect.Swapper(turned)(0, i)
		try(turned)
		varyAt(v.Index(i), fmt.Sprintf("%s[%d]", way, i), f)
	}
}

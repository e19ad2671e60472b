package ast_test

import (
	"fmt"
	"reflect"
	"regexp"
	"slices"
	"strings"

	"lamplighter/api"
)

// has is which fields an expression, a statement or a function of each Kind
// has, besides its Kind and its Line.
var has = map[reflect.Type]map[int]string{
	reflect.TypeFor[api.Expr](): {
		1: "N", 2: "Name", 3: "Name Args", 4: "Name Args", 5: "Op Args", 6: "Op Args", 7: "Type Args",
	},
	reflect.TypeFor[api.Stmt](): {
		1: "Name Type Expr", 2: "Name Index Expr", 3: "Expr", 4: "Expr Then Else", 5: "Expr Then", 6: "Expr", 7: "N", 8: "N", 9: "N", 10: "Names Then",
	},
	reflect.TypeFor[api.Decl](): {
		1: "Name Params Body", 2: "Body", 3: "On Prio Body",
	},
}

// The greatest and the smallest number of Args by Kind, and the operators.
var (
	args      = map[int][2]int{1: {0, 0}, 2: {0, 0}, 3: {1, 1}, 4: {0, 8}, 5: {1, 1}, 6: {2, 2}, 7: {1, 1}}
	operators = map[int][]int{5: {1, 2, 3}, 6: {1, 2, 3, 4, 5, 8, 9, 10, 11, 12, 14, 15, 16, 17, 20, 21}}
)

var (
	wordly  = regexp.MustCompile(`\A[a-z_][a-z_0-9]*\z`)
	keyword = regexp.MustCompile(`\A(stack|port|read|write|both|func|main|on|prio|if|else|while|return|enable|disable|level|atomic|u8|u16|u32|i32)\z`)
)

// empty reports whether a field is zero, or a list without elements.
func empty(v reflect.Value) bool {
	return v.IsZero() || v.Kind() == reflect.Slice && v.Len() == 0
}

// only reports whether what is not empty is among the fields of its Kind.
func only(x any) bool {
	v := reflect.ValueOf(x)
	fields, is := has[v.Type()][int(v.FieldByName("Kind").Int())]
	allowed := append(strings.Fields(fields), "Kind", "Line")
	for f := range v.Type().Fields() {
		is = is && (slices.Contains(allowed, f.Name) || empty(v.FieldByIndex(f.Index)))
	}
	return is
}

// within reports whether a number is one of those from one to another.
func within(n, from, to int) bool {
	return from <= n && n <= to
}

func okName(s string) bool {
	return wordly.MatchString(s) && !keyword.MatchString(s)
}

func okType(ty int) bool {
	return within(ty, 1, 4)
}

func okExpr(e api.Expr) bool {
	ok := only(e) && within(len(e.Args), args[e.Kind][0], args[e.Kind][1])
	switch e.Kind {
	case 2, 3, 4:
		ok = ok && okName(e.Name)
	case 5, 6:
		ok = ok && slices.Contains(operators[e.Kind], e.Op)
	case 7:
		ok = ok && okType(e.Type)
	}
	return ok && !slices.ContainsFunc(e.Args, func(e api.Expr) bool { return !okExpr(e) })
}

func okStmts(l []api.Stmt) bool {
	return !slices.ContainsFunc(l, func(s api.Stmt) bool { return !okStmt(s) })
}

func okStmt(s api.Stmt) bool {
	ok := only(s) && s.Line >= 0 && len(s.Index) <= 1 && okStmts(s.Then) && okStmts(s.Else)
	if s.Kind <= 6 {
		ok = ok && len(s.Expr) == 1
	}
	switch s.Kind {
	case 1:
		ok = ok && okName(s.Name) && okType(s.Type)
	case 2:
		ok = ok && okName(s.Name)
	case 3:
		ok = ok && s.Expr[0].Kind == 4
	case 7, 8:
		ok = ok && within(s.N, 0, 31)
	case 9:
		ok = ok && within(s.N, 0, 15)
	case 10:
		ok = ok && len(s.Names) > 0
	}
	for _, name := range s.Names {
		ok = ok && okName(name)
	}
	for _, e := range slices.Concat(s.Index, s.Expr) {
		ok = ok && okExpr(e)
	}
	return ok
}

func okGlobal(g api.Global) bool {
	most := g.Len
	if most == 0 {
		most = 1
	}
	return okName(g.Name) && okType(g.Type) && within(g.Len, 0, 4096) && len(g.Init) <= most && g.Line >= 0
}

func okDecl(d api.Decl) bool {
	ok := only(d) && d.Line >= 0 && okStmts(d.Body)
	switch d.Kind {
	case 1:
		ok = ok && okName(d.Name) && len(d.Params) <= 8
	case 3:
		ok = ok && within(d.On, 0, 31) && within(d.Prio, 1, 15)
	}
	for _, p := range d.Params {
		ok = ok && okName(p.Name) && okType(p.Type)
	}
	return ok
}

func okProgram(p api.Program) bool {
	ok := within(p.Stack, 1, 65536)
	for _, g := range p.Globals {
		ok = ok && okGlobal(g)
	}
	for _, g := range p.Gates {
		ok = ok && okName(g.Name) && (g.Read || g.Write) && g.Line >= 0
	}
	for _, d := range p.Funcs {
		ok = ok && okDecl(d)
	}
	return ok
}

// nodes is the types that are counted, or that may have something that is.
var nodes = []reflect.Type{reflect.TypeFor[api.Decl](), reflect.TypeFor[api.Stmt](), reflect.TypeFor[api.Expr]()}

// measured counts the expressions and statements of whatever has some, and
// tells how deep they are nested.
func measured(v reflect.Value) (size, deep int) {
	for i := range v.NumField() {
		l := v.Field(i)
		if l.Kind() != reflect.Slice || !slices.Contains(nodes, l.Type().Elem()) {
			continue
		}
		for at := range l.Len() {
			n, depth := measured(l.Index(at))
			size, deep = size+n, max(deep, depth)
		}
	}
	if slices.Contains(nodes[1:], v.Type()) {
		size, deep = size+1, deep+1
	}
	return size, deep
}

// expected is what Check, CheckExpr or CheckStmt should return.
func expected(x any) api.Errno {
	if size, deep := measured(reflect.ValueOf(x)); size > 4000 || deep > 60 {
		return api.ErrLong
	}
	ok := false
	switch y := x.(type) {
	case api.Program:
		ok = okProgram(y)
	case api.Stmt:
		ok = okStmt(y)
	case api.Expr:
		ok = okExpr(y)
	}
	if !ok {
		return api.ErrArg
	}
	return api.OK
}

// copied is a copy that shares nothing with what it is made of, without empty
// lists, and without Lines if they do not count.
func copied[T any](x T, lines bool) T {
	v := reflect.New(reflect.TypeFor[T]()).Elem()
	copyInto(v, reflect.ValueOf(x), lines)
	return v.Interface().(T)
}

func copyInto(to, from reflect.Value, lines bool) {
	switch from.Kind() {
	case reflect.Slice:
		if from.Len() == 0 {
			return
		}
		to.Set(reflect.MakeSlice(from.Type(), from.Len(), from.Len()))
		for i := range from.Len() {
			copyInto(to.Index(i), from.Index(i), lines)
		}
	case reflect.Struct:
		for i := range from.NumField() {
			if lines || from.Type().Field(i).Name != "Line" {
				copyInto(to.Field(i), from.Field(i), lines)
			}
		}
	default:
		to.Set(from)
	}
}

// alike reports whether two trees are equal except for Lines.
func alike[T any](a, b T) bool {
	return reflect.DeepEqual(copied(a, false), copied(b, false))
}

// vary changes one thing of a tree at a time, calls f with the way to it, and
// changes it back.
func vary[T any](x *T, f func(way string)) {
	varyAt(reflect.ValueOf(x).Elem(), "", f)
}

func varyAt(v reflect.Value, way string, f func(way string)) {
	try := func(x any) {
		before := reflect.New(v.Type()).Elem()
		before.Set(v)
		if v.Set(reflect.ValueOf(x).Convert(v.Type())); !reflect.DeepEqual(v.Interface(), before.Interface()) {
			f(fmt.Sprintf("%s = %v", way, x))
		}
		v.Set(before)
	}
	switch v.Kind() {
	case reflect.Struct:
		for i := range v.NumField() {
			varyAt(v.Field(i), way+"."+v.Type().Field(i).Name, f)
		}
	case reflect.Slice:
		one := reflect.MakeSlice(v.Type(), 1, 1)
		try(reflect.AppendSlice(v.Slice3(0, v.Len(), v.Len()), one).Interface())
		for i := range v.Len() {
			try(reflect.AppendSlice(v.Slice3(0, i, i), v.Slice(i+1, v.Len())).Interface())
			try(reflect.AppendSlice(v.Slice3(0, i+1, i+1), v.Slice(i, v.Len())).Interface())
			turned := reflect.AppendSlice(v.Slice3(0, 0, 0), v).Interface()
			reflect.Swapper(turned)(0, i)
			try(turned)
			varyAt(v.Index(i), fmt.Sprintf("%s[%d]", way, i), f)
		}
	case reflect.Int:
		for _, n := range []int{-1 << 63, -1, 0, 1, 2, 3, 4, 5, 6, 7, 8, 9, 10, 11, 13, 15, 16, 18, 20, 22, 31, 32, 4096, 4097, 65536, 65537, 1 << 40} {
			try(n)
		}
		try(int(v.Int()) + 1)
		try(int(v.Int()) - 1)
	case reflect.Uint32:
		try(uint32(0))
		try(uint32(v.Uint()) + 1)
	case reflect.String:
		for _, s := range []string{"", "x", v.String() + "x", "if", "G", "0"} {
			try(s)
		}
	case reflect.Bool:
		try(!v.Bool())
	}
}

// signs is the symbols of the operators.
var signs = map[int]string{1: "+", 2: "-", 3: "*", 4: "/", 5: "%", 8: "&", 9: "|", 10: "^", 11: "<<", 12: ">>", 14: "==", 15: "!=", 16: "<", 17: "<=", 20: ">", 21: ">="}

// text is the text of a valid expression, with more parentheses than it needs.
func text(e api.Expr) string {
	var l []string
	for _, a := range e.Args {
		l = append(l, text(a))
	}
	all := strings.Join(l, ", ")
	switch e.Kind {
	case 1:
		return fmt.Sprint(e.N)
	case 2:
		return e.Name
	case 3:
		return e.Name + "[" + all + "]"
	case 4:
		return e.Name + "(" + all + ")"
	case 5:
		return []string{"-", "~", "!"}[e.Op-1] + "(" + all + ")"
	case 6:
		return "(" + l[0] + " " + signs[e.Op] + " " + l[1] + ")"
	}
	return []string{"u8", "u16", "u32", "i32"}[e.Type-1] + "(" + all + ")"
}

// namesIn is the words in the text of a valid expression that are names.
func namesIn(e api.Expr) []string {
	l := regexp.MustCompile(`[a-z_][a-z_0-9]*|[0-9]+`).FindAllString(text(e), -1)
	return slices.DeleteFunc(l, func(s string) bool { return !okName(s) })
}

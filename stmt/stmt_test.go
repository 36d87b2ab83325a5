package stmt_test

import (
	"fmt"
	"math"
	"slices"
	"strings"
	"testing"

	"demesne/api"
	"demesne/kind"
	"demesne/sample"
	"demesne/stmt"
)

// params are the owner parameters of the class in which all stands, if nothing else is said.
var params = []string{"data", "key"}

var (
	this  = api.Expr{Kind: api.EThis}
	null  = api.Expr{Kind: api.ENull}
	input = api.Expr{Kind: api.EInput}
)

var (
	rep    = sample.Rep
	peer   = sample.Peer
	world  = sample.World
	any0   = sample.Any
	unique = sample.Unique
	hole   = sample.Hole
	data   = sample.Param(1)
	key    = sample.Param(2)
)

// numbers are what a number is tried with, where any can be handed in.
var numbers = []int{math.MinInt, math.MinInt + 1, -77, -2, -1, 0, 1, 2, 77, math.MaxInt - 1, math.MaxInt}

// noKinds are kinds that there are none of.
var noKinds = []int{0, -1, api.SReturn + 1, 77, 256 + api.SSet, -api.SIf, math.MinInt, math.MaxInt}

// noNames are texts that name nothing; this is one that Y may be, now and then.
var noNames = []string{
	" ", "1", "1a", "a b", " a", "a ", "a_b", "a.b", "\x00", "\xff", "é", strings.Repeat("a", api.MaxName+1),
	"class", "extends", "rep", "peer", "world", "any", "unique", "pure", "void", "int", "if", "else", "while",
	"return", "new", "move", "delete", "null", "input", "nil", "same", "cast", "This ", "this.x",
}

func num(n int) api.Expr { return api.Expr{Kind: api.EInt, Num: n} }

func name(s string) api.Expr { return api.Expr{Kind: api.EVar, Name: s} }

func of(kind int, kids ...api.Expr) api.Expr { return api.Expr{Kind: kind, Kids: kids} }

func set(x string, e api.Expr) api.Stmt { return api.Stmt{Kind: api.SSet, X: x, E: e} }

func get(x, y, field string) api.Stmt { return api.Stmt{Kind: api.SGet, X: x, Y: y, Name: field} }

func put(y, field string, e api.Expr) api.Stmt {
	return api.Stmt{Kind: api.SPut, Y: y, Name: field, E: e}
}

func call(x, y, method string, args ...api.Expr) api.Stmt {
	return api.Stmt{Kind: api.SCall, X: x, Y: y, Name: method, Args: args}
}

func made(x string, t api.Type) api.Stmt { return api.Stmt{Kind: api.SNew, X: x, Type: t} }

func cast(x string, t api.Type, e api.Expr) api.Stmt {
	return api.Stmt{Kind: api.SCast, X: x, Type: t, E: e}
}

func move(x, y string) api.Stmt { return api.Stmt{Kind: api.SMove, X: x, Y: y} }

func deleted(y string) api.Stmt { return api.Stmt{Kind: api.SDelete, Y: y} }

func if0(e api.Expr, body, other []api.Stmt) api.Stmt {
	return api.Stmt{Kind: api.SIf, E: e, Body: body, Else: other}
}

func while(e api.Expr, body ...api.Stmt) api.Stmt {
	return api.Stmt{Kind: api.SWhile, E: e, Body: body}
}

func back(e api.Expr) api.Stmt { return api.Stmt{Kind: api.SReturn, E: e} }

func list(l ...api.Stmt) []api.Stmt { return l }

// five are as many arguments as there may be.
func five() []api.Expr { return []api.Expr{num(1), name("b"), this, null, of(api.ENot, input)} }

// eachKind are statements of all kinds that may be, with their texts.
func eachKind() map[string]api.Stmt {
	return map[string]api.Stmt{
		"x = 7;\n":                              set("x", num(7)),
		"x = y;\n":                              set("x", name("y")),
		"x = this;\n":                           set("x", this),
		"x = a + 2 < b && !nil(c);\n":           set("x", of(api.EAnd, of(api.ELess, of(api.EAdd, name("a"), num(2)), name("b")), of(api.ENot, of(api.ENil, name("c"))))),
		"x = y.f;\n":                            get("x", "y", "f"),
		"x = this.f;\n":                         get("x", "this", "f"),
		"y.f = null;\n":                         put("y", "f", null),
		"this.f = x * (1 - y);\n":               put("this", "f", of(api.EMul, name("x"), of(api.ESub, num(1), name("y")))),
		"x = y.m();\n":                          call("x", "y", "m"),
		"x = this.m(same(a, null), input);\n":   call("x", "this", "m", of(api.ESame, name("a"), null), input),
		"x = y.m(1, b, this, null, !input);\n":  call("x", "y", "m", five()...),
		"y.m();\n":                              call("", "y", "m"),
		"this.m(x);\n":                          call("", "this", "m", name("x")),
		"this.m(1, b, this, null, !input);\n":   call("", "this", "m", five()...),
		"x = new rep Item;\n":                   made("x", sample.Object(rep, "Item")),
		"x = new Item;\n":                       made("x", sample.Object(hole, "Item")),
		"x = new unique Map<data, any, key>;\n": made("x", sample.Object(unique, "Map", data, any0, key)),
		"x = cast data Item y;\n":               cast("x", sample.Object(data, "Item"), name("y")),
		"x = cast Item this;\n":                 cast("x", sample.Object(hole, "Item"), this),
		"x = cast world List<peer> null;\n":     cast("x", sample.Object(world, "List", peer), null),
		"x = move y;\n":                         move("x", "y"),
		"delete y;\n":                           deleted("y"),
		"if (a < 1) {\n}\n":                     if0(of(api.ELess, name("a"), num(1)), nil, nil),
		"if (1) {\n\tx = y;\n\tdelete y;\n} else {\n\treturn;\n}\n": if0(num(1), list(set("x", name("y")), deleted("y")), list(back(api.Expr{}))),
		"if (a) {\n} else {\n\tx = 1;\n\tx = 2;\n}\n":               if0(name("a"), nil, list(set("x", num(1)), set("x", num(2)))),
		"while (!nil(x)) {\n\tx = x.next;\n}\n":                     while(of(api.ENot, of(api.ENil, name("x"))), get("x", "x", "next")),
		"while (0) {\n}\n":                                          while(num(0)),
		"return;\n":                                                 back(api.Expr{}),
		"return a - 1;\n":                                           back(of(api.ESub, name("a"), num(1))),
		"return this;\n":                                            back(this),
	}
}

// parts are the parts that the kinds have; those with a question mark may be left out.
var parts = map[int]string{
	api.SSet: "X E", api.SGet: "X Y Name", api.SPut: "Y Name E", api.SCall: "X? Y Name Args?", api.SNew: "X Type", api.SCast: "X Type E",
	api.SMove: "X Y", api.SDelete: "Y", api.SIf: "E Body? Else?", api.SWhile: "E Body?", api.SReturn: "E?",
}

// has tells whether a kind has a part.
func has(kind int, part string) bool {
	l := strings.Fields(parts[kind])
	return slices.Contains(l, part) || slices.Contains(l, part+"?")
}

// change is a statement's part, and how it can be laid.
type change struct {
	part string
	lay  func(s *api.Stmt)
}

// clone is a copy that shares no list with s.
func clone(s api.Stmt) api.Stmt {
	s.E = cloneExpr(s.E)
	s.Args = each(s.Args, cloneExpr)
	s.Body, s.Else = each(s.Body, clone), each(s.Else, clone)
	return s
}

func cloneExpr(e api.Expr) api.Expr {
	e.Kids = each(e.Kids, cloneExpr)
	return e
}

func each[T any](l []T, do func(T) T) []T {
	var m []T
	for _, x := range l {
		m = append(m, do(x))
	}
	return m
}

// alike tells whether two statements are the same, At included; a list that is empty is the same as none.
func alike(a, b api.Stmt) bool { return fmt.Sprint(clone(a)) == fmt.Sprint(clone(b)) }

// bare is a statement with 0 as each At.
func bare(s api.Stmt) api.Stmt {
	s.At, s.Body, s.Else = 0, each(s.Body, bare), each(s.Else, bare)
	return s
}

// told is how a failed test tells a thing that may be great.
func told(x any) string { return fmt.Sprintf("%.300s", fmt.Sprint(x)) }

func wantRight(t *testing.T, s api.Stmt, want bool) {
	t.Helper()
	if got := stmt.Right(s, len(params)); got != want {
		t.Errorf("Right(%s) = %v, want %v", told(s), got, want)
	}
	if got := stmt.Text(s, params, 0); (got != "") != want {
		t.Errorf("Text(%s) = %.120q, but may it be: %v", told(s), got, want)
	}
}

func wantText(t *testing.T, s api.Stmt, deep int, want string) {
	t.Helper()
	if got := stmt.Text(s, params, deep); got != want {
		t.Errorf("Text(%s, %d) = %q, want %q", told(s), deep, got, want)
	}
}

func wantSame(t *testing.T, a, b api.Stmt, want bool) {
	t.Helper()
	if got := stmt.Same(a, b); got != want {
		t.Errorf("Same(%s, %s) = %v, want %v", told(a), told(b), got, want)
	}
	if got := stmt.Same(b, a); got != want {
		t.Errorf("Same(%s, %s) = %v, want %v", told(b), told(a), got, want)
	}
}

func wantSize(t *testing.T, s api.Stmt, want int) {
	t.Helper()
	if got := stmt.Size(s); got != want {
		t.Errorf("Size(%s) = %d, want %d", told(s), got, want)
	}
}

// 8.3 Right

func TestEachKindMayBe(t *testing.T) {
	for _, s := range eachKind() {
		for _, at := range numbers {
			s.At = at
			wantRight(t, s, true)
			wantRight(t, while(num(1), s), true)
		}
	}
}

func TestOtherKindsMayNotBe(t *testing.T) {
	for _, kind := range noKinds {
		for _, s := range eachKind() {
			s.Kind = kind
			wantRight(t, s, false)
		}
		wantRight(t, api.Stmt{Kind: kind}, false)
		wantRight(t, while(num(1), api.Stmt{Kind: kind}), false)
		wantRight(t, if0(num(1), nil, list(api.Stmt{Kind: kind})), false)
	}
}

// mayTurn tells whether a statement that may be may turn into another kind, with the parts that it has.
func mayTurn(s api.Stmt, kind int) bool {
	for _, c := range lacking {
		x := s
		c.lay(&x)
		if set := !alike(x, s); set && !has(kind, c.part) || !set && slices.Contains(strings.Fields(parts[kind]), c.part) {
			return false
		}
	}
	return (kind != api.SCast || s.E.Kind == api.EVar || s.E.Kind == api.EThis || s.E.Kind == api.ENull) && (s.Y != "this" || mayBeOfThis(kind))
}

// mayBeOfThis tells whether Y of a kind may be this.
func mayBeOfThis(kind int) bool { return kind == api.SGet || kind == api.SPut || kind == api.SCall }

func TestAKindTurnedIntoAnotherOne(t *testing.T) {
	for _, s := range eachKind() {
		for kind := range parts {
			x := s
			x.Kind = kind
			wantRight(t, x, mayTurn(s, kind))
		}
	}
}

// lacking are all parts, left out.
var lacking = []change{
	{"X", func(s *api.Stmt) { s.X = "" }},
	{"Y", func(s *api.Stmt) { s.Y = "" }},
	{"Name", func(s *api.Stmt) { s.Name = "" }},
	{"Type", func(s *api.Stmt) { s.Type = api.Type{} }},
	{"E", func(s *api.Stmt) { s.E = api.Expr{} }},
	{"Args", func(s *api.Stmt) { s.Args = nil }},
	{"Body", func(s *api.Stmt) { s.Body = nil }},
	{"Else", func(s *api.Stmt) { s.Else = nil }},
}

// laid are all parts, laid so that they may be.
var laid = []change{
	{"X", func(s *api.Stmt) { s.X = "z" }},
	{"X", func(s *api.Stmt) { s.X = strings.Repeat("Z", api.MaxName) }},
	{"Y", func(s *api.Stmt) { s.Y = "z" }},
	{"Y", func(s *api.Stmt) { s.Y = "This" }},
	{"Name", func(s *api.Stmt) { s.Name = "z9" }},
	{"Type", func(s *api.Stmt) { s.Type = sample.Object(key, "Z", any0, data) }},
	{"E", func(s *api.Stmt) { s.E = name("z") }},
	{"E", func(s *api.Stmt) { s.E = this }},
	{"Args", func(s *api.Stmt) { s.Args = []api.Expr{num(0)} }},
	{"Args", func(s *api.Stmt) { s.Args = five() }},
	{"Body", func(s *api.Stmt) { s.Body = list(back(this)) }},
	{"Else", func(s *api.Stmt) { s.Else = list(deleted("z"), deleted("z")) }},
}

func TestEachPartLacking(t *testing.T) {
	for _, s := range eachKind() {
		for _, c := range lacking {
			x := s
			c.lay(&x)
			wantRight(t, x, !slices.Contains(strings.Fields(parts[s.Kind]), c.part))
		}
	}
}

func TestEachPartLaid(t *testing.T) {
	for _, s := range eachKind() {
		for _, c := range laid {
			x := s
			c.lay(&x)
			wantRight(t, x, has(s.Kind, c.part))
		}
	}
}

func TestAListThatIsEmptyIsNone(t *testing.T) {
	for text, s := range eachKind() {
		if len(s.Args) == 0 {
			s.Args = make([]api.Expr, 0, 5)
		}
		if len(s.Body) == 0 {
			s.Body = []api.Stmt{}
		}
		if len(s.Else) == 0 {
			s.Else = make([]api.Stmt, 0, 5)
		}
		if len(s.E.Kids) == 0 {
			s.E.Kids = []api.Expr{}
		}
		wantRight(t, s, true)
		wantText(t, s, 0, text)
		wantSame(t, s, eachKind()[text], true)
	}
}

func TestNamesMayBe(t *testing.T) {
	for _, s := range eachKind() {
		for _, n := range append([]string{"this"}, noNames...) {
			x, y, z := s, s, s
			x.X, y.Y, z.Name = n, n, n
			wantRight(t, x, false)
			wantRight(t, y, n == "this" && mayBeOfThis(s.Kind))
			wantRight(t, z, false)
		}
	}
}

func TestExpressionsMayBe(t *testing.T) {
	deep := num(1)
	for range api.MaxNest {
		deep = of(api.ENot, deep)
	}
	wrong := []api.Expr{
		num(-1), num(1000000000), name(""), name("int"), name("this"), {Kind: api.EThis, Num: 1}, {Kind: api.ENull, Name: "a"}, {Kind: -1}, {Kind: 15},
		of(api.ENil, null), of(api.EAdd, num(1)), of(api.EVar, num(1)), of(api.ENone, num(1)), {Num: 1}, {Name: "a"}, deep,
	}
	for _, e := range wrong {
		for _, s := range eachKind() {
			s.E = e
			wantRight(t, s, false)
		}
		for n := range api.MaxParams {
			args := five()
			args[n] = e
			wantRight(t, call("x", "y", "m", args...), false)
			wantRight(t, call("", "this", "m", args[:n+1]...), false)
		}
	}
	wantRight(t, back(deep.Kids[0]), true)
	wantRight(t, call("", "y", "m", api.Expr{}), false)
	wantRight(t, call("", "y", "m", num(1), api.Expr{}), false)
}

func TestFiveArgumentsAtMost(t *testing.T) {
	for n := range 12 {
		args := slices.Repeat([]api.Expr{num(1)}, n)
		wantRight(t, call("x", "y", "m", args...), n <= 5)
		wantRight(t, call("", "this", "m", args...), n <= 5)
	}
}

func TestACastIsOfANameThisOrNull(t *testing.T) {
	a := name("a")
	for _, e := range []api.Expr{a, this, null} {
		wantRight(t, cast("x", sample.Object(rep, "Item"), e), true)
	}
	for _, e := range []api.Expr{
		num(1), input, of(api.EAdd, a, a), of(api.ESub, a, a), of(api.EMul, a, a), of(api.ELess, a, a), of(api.EEqual, a, a), of(api.EAnd, a, a),
		of(api.ENot, a), of(api.ENil, a), of(api.ESame, a, null), {},
	} {
		wantRight(t, cast("x", sample.Object(rep, "Item"), e), false)
	}
}

func TestTypesAreObjectsThatMayBe(t *testing.T) {
	badOwn := sample.Object(rep, "Item")
	badOwn.Own[1] = rep
	badN := sample.Object(rep, "Item", peer)
	badN.N = 4
	wrong := []api.Type{
		{}, {Kind: api.KInt}, {Kind: api.KNull}, {Kind: -1}, {Kind: api.KInt, Class: "Item"}, sample.Object(rep, ""), sample.Object(rep, "int"),
		sample.Object(api.Owner{}, "Item"), sample.Object(api.Owner{Kind: api.OHidden}, "Item"), sample.Object(api.Owner{Kind: api.OParam, N: 3}, "Item"), sample.Object(api.Owner{Kind: api.OParam}, "Item"),
		sample.Object(rep, "Item", unique), sample.Object(rep, "Item", key, api.Owner{}), badOwn, badN,
	}
	for _, x := range wrong {
		wantRight(t, made("x", x), false)
		wantRight(t, cast("x", x, null), false)
	}
	for _, x := range []api.Type{sample.Object(hole, "Item"), sample.Object(api.Owner{Kind: api.OHole, N: 77}, "Item"), sample.Object(rep, "Item", hole), sample.Object(unique, "Item", data, key, any0)} {
		wantRight(t, made("x", x), true)
		wantRight(t, cast("x", x, null), true)
	}
}

func TestAParameterThatTheClassHas(t *testing.T) {
	for n := 1; n <= 5; n++ {
		s := made("x", sample.Object(rep, "Item", api.Owner{Kind: api.OParam, N: n}))
		for _, p := range append([]int{3, 4, 5}, numbers...) {
			for _, x := range []api.Stmt{s, while(num(1), s), if0(num(1), nil, list(back(this), s))} {
				if got := stmt.Right(x, p); got != (n <= p) {
					t.Errorf("Right(%s, %d) = %v", told(x), p, got)
				}
			}
		}
	}
	if !stmt.Right(back(this), math.MinInt) || stmt.Right(back(num(-1)), math.MaxInt) {
		t.Errorf("what has no types hangs on the number of parameters")
	}
}

func TestAllStatementsInItMayBe(t *testing.T) {
	good := back(this)
	for _, bad := range []api.Stmt{{}, set("", this), set("x", num(-1)), while(api.Expr{}), while(num(1), deleted("this")), if0(num(1), nil, list(move("x", "")))} {
		for _, l := range [][]api.Stmt{{bad}, {bad, good}, {good, bad}, {good, bad, good}, {good, good, while(num(1), bad)}, {if0(num(1), list(good), list(good, bad)), good}} {
			wantRight(t, while(num(1), l...), false)
			wantRight(t, if0(num(1), l, nil), false)
			wantRight(t, if0(num(1), nil, l), false)
			wantRight(t, if0(num(1), list(good), l), false)
			wantRight(t, if0(num(1), l, list(good)), false)
		}
	}
}

// nested is a statement that is so deep, of whiles, of the Bodies of ifs, or of their Elses, with the statement beside each one within.
func nested(deep int, way string, beside ...api.Stmt) api.Stmt {
	s := back(num(1))
	for i := 1; i < deep; i++ {
		l := append(slices.Clone(beside), s)
		switch way {
		case "while":
			s = while(num(1), l...)
		case "body":
			s = if0(num(1), l, beside)
		default:
			s = if0(num(1), beside, l)
		}
	}
	return s
}

var ways = []string{"while", "body", "else"}

func TestStatementsAreTwentyDeepAtMost(t *testing.T) {
	for _, way := range ways {
		for deep := 1; deep <= 45; deep++ {
			wantRight(t, nested(deep, way), deep <= 20)
			wantRight(t, nested(deep, way, deleted("y")), deep <= 20)
			wantRight(t, while(num(1), deleted("y"), nested(deep, way), deleted("y")), deep <= 19)
		}
		wantRight(t, nested(1000, way), false)
	}
	wantRight(t, if0(num(1), list(nested(3, "while")), list(nested(20, "while"))), false)
	wantRight(t, if0(num(1), list(nested(20, "body")), list(nested(19, "else"))), false)
	wantRight(t, if0(num(1), list(nested(19, "body")), list(nested(19, "else"))), true)
	// One that has nothing in it is 1 deep, whatever its kind.
	empty := while(num(1))
	for range 19 {
		empty = if0(num(1), nil, list(empty))
	}
	wantRight(t, empty, true)
	wantRight(t, while(num(1), empty), false)
}

func TestWhatStandsWithinItselfMayNotBe(t *testing.T) {
	endless := make([]api.Stmt, 2)
	endless[0] = while(num(1), endless...)
	endless[1] = if0(num(1), endless, endless)
	for _, s := range endless {
		if stmt.Right(s, 0) || stmt.Text(s, nil, 0) != "" {
			t.Errorf("a statement without an end may be, or is written")
		}
	}
}

// 8.2 Text

func TestTextOfEachKind(t *testing.T) {
	for text, s := range eachKind() {
		wantText(t, s, 0, text)
	}
}

// ahead is a text with bytes 9 ahead of each line.
func ahead(n int, text string) string {
	var b strings.Builder
	for line := range strings.Lines(text) {
		b.WriteString(strings.Repeat("\t", n) + line)
	}
	return b.String()
}

func TestTextWithSoManyBytesAhead(t *testing.T) {
	for text, s := range eachKind() {
		for _, deep := range append([]int{3, 18, 19, 20, 21, 22}, numbers...) {
			wantText(t, s, deep, ahead(min(max(deep, 0), 20), text))
		}
	}
}

func TestTextOfNestedStatements(t *testing.T) {
	for _, deep := range []int{-1, 0, 1, 19, 20, 21, math.MaxInt} {
		n := min(max(deep, 0), 20)
		inner := ahead(n+19, "return 1;\n")
		whiles, elses := inner, inner
		for i := n + 18; i >= n; i-- {
			whiles = ahead(i, "while (1) {\n") + whiles + ahead(i, "}\n")
			elses = ahead(i, "if (1) {\n\ty.f = 0;\n} else {\n\ty.f = 0;\n") + elses + ahead(i, "}\n")
		}
		wantText(t, nested(20, "while"), deep, whiles)
		wantText(t, nested(20, "else", put("y", "f", num(0))), deep, elses)
	}
}

func TestTextOfOthersIsNothing(t *testing.T) {
	for _, deep := range numbers {
		for _, s := range []api.Stmt{{}, set("x", api.Expr{}), call("x", "", "m"), made("x", api.Type{Kind: api.KInt}), nested(21, "while"), nested(40, "else"), while(num(1), api.Stmt{})} {
			wantText(t, s, deep, "")
		}
	}
}

func TestTextWithOtherParameters(t *testing.T) {
	s := while(num(1), made("x", sample.Object(data, "Item", key)), cast("x", sample.Object(key, "Item"), null))
	for want, names := range map[string][]string{
		"while (1) {\n\tx = new a Item<b>;\n\tx = cast b Item null;\n}\n": {"a", "b", "c"},
		"while (1) {\n\tx = new a Item<a>;\n\tx = cast a Item null;\n}\n": {"a", "a"},
		"": {"a"},
	} {
		if got := stmt.Text(s, names, 0); got != want {
			t.Errorf("with the parameters %q it is written %q, want %q", names, got, want)
		}
	}
	for _, none := range [][]string{nil, {}} {
		if got := stmt.Text(s, none, 0); got != "" {
			t.Errorf("without parameters it is written %q", got)
		}
		if got := stmt.Text(back(this), none, 1); got != "\treturn this;\n" {
			t.Errorf("without parameters a return is written %q", got)
		}
	}
}

func TestTextOfTypesWithHoles(t *testing.T) {
	wantText(t, made("x", sample.Object(hole, "Item", hole, rep)), 0, "x = new Item<?, rep>;\n")
	wantText(t, cast("x", sample.Object(api.Owner{Kind: api.OHole, N: 3}, "Item"), this), 0, "x = cast Item this;\n")
}

// 8.3 Size

func TestSizeExampleOfTheChapter(t *testing.T) {
	wantSize(t, if0(of(api.ELess, name("a"), num(1)), list(set("x", this)), list(back(api.Expr{}))), 3)
}

func TestSizeOfEachKind(t *testing.T) {
	for text, s := range eachKind() {
		// Each statement has one line, but for those that only close another one.
		lines := strings.Count(text, "\n") - strings.Count(text, "}")
		wantSize(t, s, lines)
		wantSize(t, while(num(1), s, s, s), 1+3*lines)
		wantSize(t, if0(num(1), list(s), list(while(num(1), s), s)), 2+3*lines)
	}
}

func TestSizeOfGreatStatements(t *testing.T) {
	for _, way := range ways {
		for _, deep := range []int{1, 2, 20, 21, 5000} {
			wantSize(t, nested(deep, way), deep)
		}
	}
	wantSize(t, nested(20, "while", back(this)), 39)
	wantSize(t, nested(20, "body", back(this)), 58)
	wantSize(t, while(num(1), slices.Repeat(list(back(this)), 70000)...), 70001)
}

func TestSizeOfWhatMayNotBe(t *testing.T) {
	wantSize(t, api.Stmt{}, 1)
	for _, kind := range append([]int{api.SSet, api.SWhile, api.SReturn}, noKinds...) {
		s := api.Stmt{Kind: kind, Body: list(api.Stmt{}, api.Stmt{}), Else: list(api.Stmt{Kind: kind})}
		wantSize(t, s, 4)
		s.Else[0].Else = list(clone(s), clone(s))
		wantSize(t, s, 12)
	}
}

// 8.3 Same

func TestSameOfEachKind(t *testing.T) {
	for text, s := range eachKind() {
		for other, u := range eachKind() {
			wantSame(t, s, u, text == other)
			wantSame(t, while(num(1), s), while(num(1), u), text == other)
			wantSame(t, if0(num(1), nil, list(back(this), s)), if0(num(1), nil, list(back(this), u)), text == other)
		}
	}
}

func TestSameWhereverTheyStand(t *testing.T) {
	a := nested(20, "else", while(num(1), back(this)))
	for _, at := range numbers {
		b := clone(a)
		b.At = at
		wantSame(t, a, b, true)
		for s := &b; len(s.Else) > 0; s = &s.Else[1] {
			s.Else[0].Body[0].At, s.Body[0].At, s.Else[1].At = at, -at, at+1
		}
		wantSame(t, a, b, true)
	}
	wantSame(t, api.Stmt{At: 1}, api.Stmt{At: 2}, true)
}

// unlike are changes of a statement that has all parts, each of which makes it another one.
var unlike = append([]change{
	{"Kind", func(s *api.Stmt) { s.Kind++ }},
	{"Kind", func(s *api.Stmt) { s.Kind = 0 }},
	{"X", func(s *api.Stmt) { s.X += "x" }},
	{"Y", func(s *api.Stmt) { s.Y = "this" }},
	{"Name", func(s *api.Stmt) { s.Name = s.X }},
	{"Type", func(s *api.Stmt) { s.Type.Own[0] = peer }},
	{"Type", func(s *api.Stmt) { s.Type.Own[3] = peer }},
	{"Type", func(s *api.Stmt) { s.Type.N++ }},
	{"Type", func(s *api.Stmt) { s.Type.Kind++ }},
	{"Type", func(s *api.Stmt) { s.Type.Class = "" }},
	{"E", func(s *api.Stmt) { s.E.Kids[1].Num++ }},
	{"E", func(s *api.Stmt) { s.E.Kids = s.E.Kids[:1] }},
	{"E", func(s *api.Stmt) { s.E.Num = 1 }},
	{"E", func(s *api.Stmt) { s.E.Name = "x" }},
	{"Args", func(s *api.Stmt) { s.Args = s.Args[:1] }},
	{"Args", func(s *api.Stmt) { s.Args[1] = null }},
	{"Args", func(s *api.Stmt) { s.Args[0], s.Args[1] = s.Args[1], s.Args[0] }},
	{"Args", func(s *api.Stmt) { s.Args = append(s.Args, api.Expr{}) }},
	{"Body", func(s *api.Stmt) { s.Body = s.Body[:1] }},
	{"Body", func(s *api.Stmt) { s.Body = s.Body[1:] }},
	{"Body", func(s *api.Stmt) { s.Body[0], s.Body[1] = s.Body[1], s.Body[0] }},
	{"Body", func(s *api.Stmt) { s.Body = append(s.Body, api.Stmt{}) }},
	{"Body", func(s *api.Stmt) { s.Body[1].X = "q" }},
	{"Else", func(s *api.Stmt) { s.Else[0].Kind = 0 }},
	{"Else", func(s *api.Stmt) { s.Else[1].E.Num = 2 }},
	{"Else", func(s *api.Stmt) { s.Else = append(s.Else, api.Stmt{}) }},
	{"Else", func(s *api.Stmt) { s.Body, s.Else = s.Else, s.Body }},
	{"Else", func(s *api.Stmt) { s.Body, s.Else = append(s.Body, s.Else...), nil }},
}, lacking...)

func TestSameInAllParts(t *testing.T) {
	all := api.Stmt{
		Kind: 3, X: "x", Y: "y", Name: "f", Type: sample.Object(rep, "Item", data), E: of(api.EAdd, num(1), num(2)), Args: []api.Expr{num(1), name("a")},
		Body: list(set("x", num(1)), back(this)), Else: list(deleted("y"), set("x", num(1))),
	}
	for i, c := range unlike {
		x := clone(all)
		wantSame(t, all, x, true)
		c.lay(&x)
		if stmt.Same(all, x) || stmt.Same(x, all) {
			t.Errorf("the change %d, of %s, makes no other statement", i, c.part)
		}
		wantSame(t, if0(this, list(all), nil), if0(this, list(x), nil), false)
		wantSame(t, if0(this, nil, list(all, all)), if0(this, nil, list(all, x)), false)
		wantSame(t, x, clone(x), true)
	}
}

// 8.4

// someTypes are types without holes but for those ahead, N of which is 0.
func someTypes() []api.Type {
	var l []api.Type
	for _, o := range []api.Owner{rep, peer, world, any0, unique, data, key, hole} {
		for _, class := range []string{"Item", "data", "y"} {
			l = append(l, sample.Object(o, class), sample.Object(o, class, any0), sample.Object(o, class, data, key, world))
		}
	}
	return l
}

// someExprs are expressions of all kinds.
func someExprs() []api.Expr {
	l := []api.Expr{num(0), num(999999999), name("a"), name("Item"), this, null, input}
	for _, kind := range []int{api.EAdd, api.ESub, api.EMul, api.ELess, api.EEqual, api.EAnd} {
		e := of(kind, name("a"), num(1))
		l = append(l, e, of(kind, e, e), of(api.ENot, e), of(kind, of(api.ENil, this), of(api.ESame, null, name("b"))))
	}
	return l
}

// plain are statements of all kinds that have no others in them.
func plain() []api.Stmt {
	l := []api.Stmt{move("x", "y"), deleted("y"), back(api.Expr{}), call("", "this", "m"), call("x", "y", "m")}
	for _, e := range someExprs() {
		l = append(l, set("x", e), put("y", "f", e), put("this", "f", e), back(e), if0(e, nil, nil), while(e))
		l = append(l, call("", "y", "m", e), call("x", "this", "m", append(five()[:4], e)...))
	}
	for _, x := range someTypes() {
		l = append(l, made("x", x), cast("x", x, name("y")), cast("data", x, this), cast("x", x, null))
	}
	return append(l, get("x", "y", "f"), get("data", "this", "data"))
}

// wantBack asks that a statement comes back from its text.
func wantBack(t *testing.T, s api.Stmt, deep int) {
	t.Helper()
	text := stmt.Text(s, params, deep)
	l := tokensOf(t, text)
	got, n, f := stmt.Parse(l, 0, params, 0)
	if text == "" || f != (api.Fault{}) || n != len(l)-1 || !stmt.Same(got, s) || !alike(bare(got), bare(s)) {
		t.Fatalf("%s, written %q, comes back as %s, %d, %v", told(s), text, told(got), n, f)
	}
	wantPlaces(t, l, got)
}

// wantPlaces asks that each statement of what was read stands where its At says.
func wantPlaces(t *testing.T, l []api.Token, s api.Stmt) {
	t.Helper()
	at := slices.IndexFunc(l, func(x api.Token) bool { return x.At == s.At })
	got, _, f := stmt.Parse(l, max(at, 0), params, 0)
	if f != (api.Fault{}) || !alike(got, s) {
		t.Fatalf("%s doesn't stand at %d of %v", told(s), s.At, l)
	}
	for _, inner := range slices.Concat(s.Body, s.Else) {
		wantPlaces(t, l, inner)
	}
}

func TestStatementsComeBack(t *testing.T) {
	for _, s := range eachKind() {
		wantBack(t, s, 0)
	}
	all := plain()
	for i, s := range all {
		next := all[(i+1)%len(all)]
		wantBack(t, s, i%25)
		wantBack(t, while(num(1), s, next), 1)
		wantBack(t, if0(name("a"), list(s), list(next)), 0)
		wantBack(t, if0(name("a"), nil, list(next, while(this, s), s)), 20)
		if i%20 == 0 {
			wantBack(t, nested(20, ways[i/20%3], s), 0)
		}
	}
	if !slices.ContainsFunc(all, func(s api.Stmt) bool { return kind.Unique(s.Type) }) {
		t.Errorf("no type of the statements is unique")
	}
}

func TestStatementsComeBackWithOtherParameters(t *testing.T) {
	for _, names := range [][]string{nil, {}, {"x"}, {"Item", "y", "this1"}} {
		for _, s := range plain() {
			text := stmt.Text(s, names, 0)
			if text == "" {
				continue
			}
			l := tokensOf(t, text)
			if got, n, f := stmt.Parse(l, 0, names, 0); f != (api.Fault{}) || n != len(l)-1 || !stmt.Same(got, s) {
				t.Fatalf("%s, written %q with %q, comes back as %s, %d, %v", told(s), text, names, told(got), n, f)
			}
		}
	}
}

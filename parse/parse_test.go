package parse_test

import (
	"fmt"
	"slices"
	"strconv"
	"strings"
	"testing"

	"demesne/annot"
	"demesne/api"
	"demesne/parse"
	"demesne/sample"
	"demesne/stmt"
	"demesne/token"
)

// everyToken is a token of each kind and text, but for names and numbers, of which there are some.
const everyToken = sample.Words + " data Item 0 907 " + sample.Signs

// list is a program with much of what may stand in one.
const list = `class List<data, key> extends Base<data, world, peer> {
	rep Node<data> head; // the first one
	int size;
	pure data Item get(int i, any Item<key> d, Item e) {
		rep Node<data> x;
		int n;
		peer Item y;
		Item z;
		x = this.head;
		while (0 < n) { n = n - 1; if (nil(x)) { return null; } else { x = x.next(n); } }
		return x;
	}
	unique Item<any> last;
	void put() { }
	int get(int n) { return n; }
	data Item<rep, peer> more;
}
class Item { }
class Base<a, b, c> extends Item {
	void make() {
		unique Item u;
		u = new unique Item;
		x = cast a Item u;
		delete u;
	}
}`

// texts are programs that are read.
var texts = []string{
	"", "class A { }", "class A<a> { }", "class A<a, b, c> extends A<c, peer, world> { }", "class A { int n; pure int get() { int r; r = this.n; return r; } }",
	"class A extends B { A a; void m(int a, int b, int c, int d, A e) { } } class B { pure unique B n() { x = y; } }", list,
}

var (
	rep    = sample.Rep
	peer   = sample.Peer
	world  = sample.World
	any0   = sample.Any
	unique = sample.Unique
	hole   = sample.Hole
	number = api.Type{Kind: api.KInt}
)

// told is all of a program.
func told(l []api.Class) string { return fmt.Sprintf("%+v", l) }

// bareStmts are statements that stand nowhere.
func bareStmts(l []api.Stmt) []api.Stmt {
	l = slices.Clone(l)
	for i, s := range l {
		l[i].At, l[i].Body, l[i].Else = 0, bareStmts(s.Body), bareStmts(s.Else)
	}
	return l
}

// bareVars are variables that stand nowhere.
func bareVars(l []api.Var) []api.Var {
	l = slices.Clone(l)
	for i := range l {
		l[i].At = 0
	}
	return l
}

// bare is a program that stands nowhere.
func bare(l []api.Class) []api.Class {
	l = slices.Clone(l)
	for i, c := range l {
		l[i].At, l[i].Fields, l[i].Methods = 0, bareVars(c.Fields), slices.Clone(c.Methods)
		for k, m := range c.Methods {
			m.At, m.Params, m.Locals, m.Body = 0, bareVars(m.Params), bareVars(m.Locals), bareStmts(m.Body)
			l[i].Methods[k] = m
		}
	}
	return l
}

// read is a program that has to be one.
func read(t *testing.T, text string) []api.Class {
	t.Helper()
	l, f := parse.Of(text)
	if f != (api.Fault{}) {
		t.Fatalf("Of(%.200q) = %s, %v", text, told(l), f)
	}
	return l
}

// wantRead asks that a text is a program, wherever its parts stand.
func wantRead(t *testing.T, text string, want ...api.Class) {
	t.Helper()
	l, f := parse.Of(text)
	if f != (api.Fault{}) || told(bare(l)) != told(bare(want)) {
		t.Errorf("Of(%.200q) = %s, %v, want %s", text, told(l), f, told(want))
	}
}

// wantMembers asks what stands in a class with the owner parameter a.
func wantMembers(t *testing.T, inner string, fields []api.Var, methods ...api.Method) {
	t.Helper()
	wantRead(t, "class A<a> {"+inner+"}", api.Class{Name: "A", Params: []string{"a"}, Fields: fields, Methods: methods})
}

// wantMethod asks what a method is.
func wantMethod(t *testing.T, text string, m api.Method) {
	t.Helper()
	wantMembers(t, text, nil, m)
	wantMembers(t, text+text, nil, m, m)
	wantMembers(t, "a A<a> f;"+text+"int n;", []api.Var{field(sample.Object(sample.Param(1), "A", sample.Param(1)), "f"), field(number, "n")}, m)
}

// field is a variable that stands nowhere.
func field(t api.Type, name string) api.Var { return api.Var{Name: name, Type: t} }

// wantFault asks that a text is no program because of what stands at a byte.
func wantFault(t *testing.T, text string, err api.Errno, where int) {
	t.Helper()
	if l, f := parse.Of(text); f != (api.Fault{Err: err, At: where}) || len(l) != 0 {
		t.Errorf("Of(%.200q ..%.80q) = %s, %v, want fault %d at %d", text, text[max(0, len(text)-80):], told(l), f, err, where)
	}
}

// wantFaultAt asks that a text is no program because of what stands where the mark ^ does.
func wantFaultAt(t *testing.T, marked string, err api.Errno) {
	t.Helper()
	where := strings.Index(marked, "^")
	text := marked[:where] + marked[where+1:]
	wantFault(t, text, err, where)
	wantFault(t, " // c\n"+text, err, where+6)
	wantFault(t, "class B<a> { }"+text, err, where+14)
}

// wantFaultIn asks that there is a fault among the members of a class that has the owner parameters a and b.
func wantFaultIn(t *testing.T, marked string, err api.Errno) {
	t.Helper()
	wantFaultAt(t, "class A<a, b> { "+marked, err)
	wantFaultAt(t, "class A<a, b> { int n; void m() { x = 1; } "+marked, err)
	if !strings.HasSuffix(marked, "^") {
		wantFaultAt(t, "class A<a, b> extends B<a> {"+marked+" } }", err)
	}
}

// wantFaultInBody asks that there is a fault in a method's body.
func wantFaultInBody(t *testing.T, marked string, err api.Errno) {
	t.Helper()
	wantFaultIn(t, "void m() { "+marked, err)
	if !strings.HasSuffix(marked, "^") {
		wantFaultIn(t, "pure a A<b> m(int x) {"+marked+"} int n;", err)
	}
}

// times is a text so many times, a # in which becomes a number from 0 on.
func times(n int, text string) string {
	var b strings.Builder
	for i := range n {
		b.WriteString(strings.ReplaceAll(text, "#", strconv.Itoa(i)))
	}
	return b.String()
}

// 9.1: classes

func TestExampleOfTheChapter(t *testing.T) {
	wantRead(t, "class A { int n; pure int get() { int r; r = this.n; return r; } }", api.Class{Name: "A", Fields: []api.Var{field(number, "n")}, Methods: []api.Method{{
		Name: "get", Pure: true, Ret: number, Locals: []api.Var{field(number, "r")},
		Body: []api.Stmt{{Kind: api.SGet, X: "r", Y: "this", Name: "n"}, {Kind: api.SReturn, E: api.Expr{Kind: api.EVar, Name: "r"}}},
	}}})
}

func TestNoClassAtAll(t *testing.T) {
	for _, text := range []string{"", " ", "\n\t \r\n", "// class A { ", "//\n//\n", " // a\n\t// b"} {
		wantRead(t, text)
	}
}

func TestClassesOneBehindTheOther(t *testing.T) {
	a, b := api.Class{Name: "A"}, api.Class{Name: "B"}
	wantRead(t, "class A{}", a)
	wantRead(t, "class A{}class B{}", a, b)
	wantRead(t, "class B { } // B\nclass A { } class B { } class B { }", b, a, b, b)
	for _, w := range strings.Fields(everyToken) {
		if w != "class" {
			wantFault(t, w, api.ErrToken, 0)
			wantFault(t, w+" A { }", api.ErrToken, 0)
			wantFault(t, "class A { } "+w, api.ErrToken, 12)
			wantFault(t, "class A { } "+w+" B { }", api.ErrToken, 12)
		}
	}
}

func TestOwnerParameters(t *testing.T) {
	wantRead(t, "class A { }", api.Class{Name: "A"})
	wantRead(t, "class A<a> { }", api.Class{Name: "A", Params: []string{"a"}})
	wantRead(t, "class A<b, a> { }", api.Class{Name: "A", Params: []string{"b", "a"}})
	wantRead(t, "class A<a,a,A> { }", api.Class{Name: "A", Params: []string{"a", "a", "A"}})
	wantRead(t, "class A<a> { } class A { }", api.Class{Name: "A", Params: []string{"a"}}, api.Class{Name: "A"})
	for _, marked := range []string{"class A<^> { }", "class A<^", "class A<a^", "class A<a ^b> { }", "class A<a, ^> { }", "class A<a, b, ^> { }", "class A<^, a> { }", "class A<a,^, b> { }", "class A<a ^{ }", "class A<a> ^< b> { }", "class A ^> { }", "class A<a ^; b> { }"} {
		wantFaultAt(t, marked, api.ErrToken)
	}
}

func TestAFourthOwnerParameter(t *testing.T) {
	for _, behind := range []string{"", ">", " e", ", e, f>", "> { }", "< d"} {
		wantFaultAt(t, "class A<a, b, c, ^d"+behind, api.ErrArity)
		wantFaultAt(t, "class A<a, b, c, ^a"+behind, api.ErrArity)
	}
	for _, w := range strings.Fields(everyToken) {
		want := api.ErrToken
		if w == "data" || w == "Item" {
			want = api.ErrArity
		}
		wantFaultAt(t, "class A<a, b, c, ^"+w+" > { }", want)
		if w != "," && w != ">" {
			wantFaultAt(t, "class A<a, b, c ^"+w+" > { }", api.ErrToken)
		}
	}
	wantFaultAt(t, "class A<a, b, c, ^", api.ErrToken)
}

func TestTheClassAbove(t *testing.T) {
	a := api.Class{Name: "A", Params: []string{"a", "b"}, Super: "B"}
	for behind, above := range map[string][]api.Owner{"": nil, "<a>": {sample.Param(1)}, "<b, a>": {sample.Param(2), sample.Param(1)}, "<peer, world, b>": {peer, world, sample.Param(2)}, "<a, a, a>": {sample.Param(1), sample.Param(1), sample.Param(1)}, "<world>": {world}} {
		a.Above = above
		wantRead(t, "class A<a, b> extends B"+behind+" { }", a)
	}
	wantRead(t, "class A extends A { }", api.Class{Name: "A", Super: "A"})
	wantRead(t, "class A extends B<peer> { } class B { }", api.Class{Name: "A", Super: "B", Above: []api.Owner{peer}}, api.Class{Name: "B"})
	wantRead(t, "class A<a, a> extends B<a> { }", api.Class{Name: "A", Params: []string{"a", "a"}, Super: "B", Above: []api.Owner{sample.Param(1)}})
	for _, marked := range []string{"class A extends ^{ }", "class A extends^", "class A extends ^<a> { }", "class A ^B { }", "class A extends B ^C { }", "class A extends B<peer> ^<peer> { }", "class A extends B ^extends C { }", "class A extends B ^, C { }"} {
		wantFaultAt(t, marked, api.ErrToken)
	}
}

func TestOwnersThatMayNotStandBehindTheClassAbove(t *testing.T) {
	for marked, err := range map[string]api.Errno{
		"<^rep>": api.ErrOwner, "<^any>": api.ErrOwner, "<a, ^rep>": api.ErrOwner, "<world, peer, ^any>": api.ErrOwner, "<^rep, any>": api.ErrOwner, "<^any, rep, a>": api.ErrOwner, "<a, ^any, rep>": api.ErrOwner, "<^any, any, any>": api.ErrOwner,
		// Faults of the owners' own are asked ahead of that.
		"<rep, ^c>": api.ErrOwner, "<any, ^7>": api.ErrToken, "<rep, a, any, ^peer>": api.ErrArity, "<any, any, any, ^any>": api.ErrArity, "<rep, rep, rep, ^c>": api.ErrOwner, "<any ^rep>": api.ErrToken, "<rep, ^unique>": api.ErrToken, "<rep, ^>": api.ErrToken, "<any ^{": api.ErrToken,
		"<^>": api.ErrToken, "<^unique>": api.ErrToken, "<^c>": api.ErrOwner, "<^A>": api.ErrOwner, "<a, b, world, ^a>": api.ErrArity,
		// And what stands behind them is asked behind it.
		"<^rep> ;": api.ErrOwner, "<a, ^any> <": api.ErrOwner, "<a, peer> ^<": api.ErrToken,
	} {
		wantFaultAt(t, "class A<a, b> extends B"+marked+" { }", err)
		wantFaultAt(t, "class A<a, b> extends B"+marked+" { void x; }", err)
	}
	wantFaultAt(t, "class A extends B<^a> { }", api.ErrOwner)
	wantFaultAt(t, "class A<c> { } class A extends B<^c> { }", api.ErrOwner)
	wantFaultAt(t, "class A extends B< // rep\n world , // any\n ^any // c\n > { }", api.ErrOwner)
}

func TestAClassWithoutItsSigns(t *testing.T) {
	for _, marked := range []string{"class ^{ }", "class^", "class ^class { }", "class A ^", "class A ^}", "class A ^;", "class A {^", "class A { } ^}", "class A { } ^;", "class A { } ^{ }", "class A ^( )", "class A { ^{ } }", "class A { ^; }", "class A { ^class B { } }", "class ^<a> A { }", "class A ^= { }", "class A ^7 { }"} {
		wantFaultAt(t, marked, api.ErrToken)
	}
}

// 9.1: members

func TestFields(t *testing.T) {
	wantMembers(t, "", nil)
	for text, x := range map[string]api.Type{"int": number, "A": sample.Object(hole, "A"), "rep A": sample.Object(rep, "A"), "a A": sample.Object(sample.Param(1), "A"), "any a<a, rep>": sample.Object(any0, "a", sample.Param(1), rep), "unique A<peer, world, any>": sample.Object(unique, "A", peer, world, any0), "a": sample.Object(hole, "a"), "peer x": sample.Object(peer, "x"), "world A": sample.Object(world, "A")} {
		wantMembers(t, text+" x;", []api.Var{field(x, "x")})
		wantMembers(t, text+" a;"+text+" a;", []api.Var{field(x, "a"), field(x, "a")})
	}
}

func TestMembersInAnyOrder(t *testing.T) {
	n, m := field(number, "n"), api.Method{Name: "m"}
	for _, order := range []string{"fm", "mf", "fmf", "mfm", "ffmm", "mmff", "fmfmfm", "mffmmf"} {
		var fields []api.Var
		var methods []api.Method
		for _, b := range order {
			if b == 'f' {
				fields = append(fields, n)
				continue
			}
			methods = append(methods, m)
		}
		wantMembers(t, strings.NewReplacer("f", "int n;", "m", "void m() {}").Replace(order), fields, methods...)
	}
}

func TestAFieldThatIsVoid(t *testing.T) {
	wantFaultIn(t, "void x^;", api.ErrToken)
	wantFaultIn(t, "void ^;", api.ErrToken)
	wantFaultIn(t, "void^", api.ErrToken)
	wantFaultIn(t, "void x ^int y;", api.ErrToken)
	wantFaultIn(t, "void A ^x;", api.ErrToken)
}

func TestMethods(t *testing.T) {
	m := api.Method{Name: "m"}
	wantMethod(t, "void m() { }", m)
	m.Pure = true
	wantMethod(t, "pure void m() { }", m)
	for text, x := range map[string]api.Type{"int": number, "A": sample.Object(hole, "A"), "a A<peer>": sample.Object(sample.Param(1), "A", peer), "unique m": sample.Object(unique, "m"), "a": sample.Object(hole, "a"), "any A<a, a, any>": sample.Object(any0, "A", sample.Param(1), sample.Param(1), any0)} {
		wantMethod(t, text+" m(){}", api.Method{Name: "m", Ret: x})
		wantMethod(t, "pure "+text+" m(){}", api.Method{Name: "m", Ret: x, Pure: true})
	}
	wantMembers(t, "pure int m() { } int m() { } pure void m() { } int m;", []api.Var{field(number, "m")}, api.Method{Name: "m", Ret: number, Pure: true}, api.Method{Name: "m", Ret: number}, m)
}

func TestPure(t *testing.T) {
	for _, marked := range []string{"pure int x^;", "pure void x^;", "pure rep A x^;", "pure a A<b> x ^= 1;", "pure ^pure int m() { }", "int ^pure m() { }", "void ^pure m() { }", "pure x^;", "pure^", "pure int^", "pure ^}", "pure m^() { }", "pure int x ^}", "pure rep ^int m() { }"} {
		wantFaultIn(t, marked, api.ErrToken)
	}
	wantFaultIn(t, "pure ^c A x;", api.ErrOwner)
}

func TestWhatBeginsAMember(t *testing.T) {
	begins := strings.Fields("rep peer world any unique pure void int data Item }")
	for _, w := range strings.Fields(everyToken) {
		if !slices.Contains(begins, w) {
			wantFaultIn(t, "^"+w+" x;", api.ErrToken)
			wantFaultIn(t, "^"+w+" A x;", api.ErrToken)
			wantFaultIn(t, "^"+w+" m() { }", api.ErrToken)
			wantFaultIn(t, "pure ^"+w+" m() { }", api.ErrToken)
		}
	}
}

func TestTheSignsOfMembers(t *testing.T) {
	for _, marked := range []string{
		"^;", "^{", "^(", "int^", "int^;", "int ^7;", "int x^", "int x ^}", "int x ^, y;", "int x ^= 1;", "int x; ^;", "int x ^int y;", "int^() { }", "A^;", "A x^}", "rep^;", "rep A^;", "rep A^() { }", "A<^> x;", "A<a ^x;", "A<a>^;",
		"void m^", "void m ^{ }", "void m ^) { }", "void m(^", "void m(^{ }", "void m() ^}", "void m() ^; }", "void m()^;", "void m() ^= 1;", "void m() { ^", "void m() { ^; }", "void m() { ^{ } }", "void m() { } ^;", "void m() ^int x; { }", "void^() { }", "A ^void m() { }", "int x() { } ^= 1;", "void ^7() { }",
		"void m(^;) { }", "void m(^7) { }", "void m(x^) { }", "void m(int^) { }", "void m(int a^", "void m(int a ^int b) { }", "void m(int a^; int b) { }", "void m(int a,^) { }", "void m(^, int a) { }", "void m(int a,^, int b) { }", "void m(int a^{ }", "void m(int a) ^) { }", "void m(^void a) { }", "void m(^void) { }", "void m(int a, ^void b) { }", "void m(int a ^= 1) { }", "void m(^pure int a) { }", "void m(A<a>^) { }", "void m(rep A^) { }",
	} {
		wantFaultIn(t, marked, api.ErrToken)
	}
}

func TestWordsWhereANameHasToStand(t *testing.T) {
	for _, w := range strings.Fields(sample.Words) {
		wantFaultAt(t, "class ^"+w+" { }", api.ErrToken)
		wantFaultAt(t, "class A<^"+w+"> { }", api.ErrToken)
		wantFaultAt(t, "class A<a, b, ^"+w+"> { }", api.ErrToken)
		wantFaultAt(t, "class A extends ^"+w+" { }", api.ErrToken)
		wantFaultAt(t, "class A extends ^"+w+"<peer> { }", api.ErrToken)
		for _, ahead := range []string{"int ", "A ", "rep A ", "a A<b> ", "rep ", "unique "} {
			wantFaultIn(t, ahead+"^"+w+";", api.ErrToken)
			wantFaultIn(t, ahead+"^"+w+"() { }", api.ErrToken)
			wantFaultIn(t, "pure "+ahead+"^"+w+"() { }", api.ErrToken)
			wantFaultIn(t, "void m("+ahead+"^"+w+") { }", api.ErrToken)
			if ahead != "A " {
				wantFaultInBody(t, ahead+"^"+w+"; }", api.ErrToken)
			}
		}
		wantFaultIn(t, "void ^"+w+"() { }", api.ErrToken)
		wantFaultInBody(t, "x = new rep ^"+w+"; }", api.ErrToken)
		wantFaultInBody(t, "x = y.^"+w+"; }", api.ErrToken)
	}
}

func TestParameters(t *testing.T) {
	l := []api.Var{field(number, "a"), field(sample.Object(hole, "A"), "b"), field(sample.Object(unique, "A", any0), "c"), field(sample.Object(sample.Param(1), "a"), "d"), field(sample.Object(peer, "A", rep, peer, world), "d")}
	written := strings.Split("int a;A b;unique A<any> c;a a d;peer A<rep, peer, world> d", ";")
	for n := range 6 {
		inner := strings.Join(written[:n], ",")
		wantMethod(t, "void m("+inner+"){}", api.Method{Name: "m", Params: l[:n]})
		wantMethod(t, "pure int m("+inner+") { return 0; }", api.Method{Name: "m", Params: l[:n], Pure: true, Ret: number, Body: []api.Stmt{{Kind: api.SReturn, E: api.Expr{Kind: api.EInt}}}})
	}
}

func TestLocalVariables(t *testing.T) {
	x, one := field(number, "x"), api.Stmt{Kind: api.SSet, X: "x", E: api.Expr{Kind: api.EInt, Num: 1}}
	wantMethod(t, "void m() { int x; }", api.Method{Name: "m", Locals: []api.Var{x}})
	wantMethod(t, "void m() { x = 1; }", api.Method{Name: "m", Body: []api.Stmt{one}})
	wantMethod(t, "void m() { int x; int x; x = 1; x = 1; }", api.Method{Name: "m", Locals: []api.Var{x, x}, Body: []api.Stmt{one, one}})
	for text, v := range map[string]api.Type{"A": sample.Object(hole, "A"), "A<a>": sample.Object(hole, "A", sample.Param(1)), "a A": sample.Object(sample.Param(1), "A"), "rep A": sample.Object(rep, "A"), "peer A": sample.Object(peer, "A"), "world A": sample.Object(world, "A"), "any A": sample.Object(any0, "A"), "unique A<peer>": sample.Object(unique, "A", peer), "x": sample.Object(hole, "x"), "a": sample.Object(hole, "a")} {
		wantMethod(t, "void m() { "+text+" v; x = 1; }", api.Method{Name: "m", Locals: []api.Var{field(v, "v")}, Body: []api.Stmt{one}})
		wantMethod(t, "void m() { int x; "+text+" v; }", api.Method{Name: "m", Locals: []api.Var{x, field(v, "v")}})
		wantFaultInBody(t, text+" v ^}", api.ErrToken)
	}
}

func TestALocalVariableWithoutItsSemicolon(t *testing.T) {
	for _, ahead := range []string{"int x", "x y", "A x", "rep A x", "a A x", "A<a> x", "int y; unique x x"} {
		for _, w := range strings.Fields(everyToken) {
			if w != ";" && (ahead != "x y" && ahead != "A x" || w != "<" && w != "data" && w != "Item" && w != "this" && w != "null") {
				wantFaultInBody(t, ahead+" ^"+w+" z; }", api.ErrToken)
			}
		}
		wantFaultInBody(t, ahead+" ^= 1; }", api.ErrToken)
		wantFaultInBody(t, ahead+"^", api.ErrToken)
		wantFaultInBody(t, ahead+"^.f = 1; }", api.ErrToken)
		wantFaultInBody(t, ahead+"^, y; }", api.ErrToken)
	}
}

func TestNoLocalVariableBehindAStatement(t *testing.T) {
	for _, marked := range []string{"x = 1; ^int y; }", "x = 1; A ^y; }", "return; ^rep A y; }", "x.m(); ^unique A y; }", "if (1) { } ^any A y; }", "if (1) { ^int y; } }", "while (1) { A ^y; } }", "x = 1; A ^<a> y; }", "int x; x = 1; ^peer A y; }", "int x; x = 1; ^world A y; }"} {
		wantFaultInBody(t, marked, api.ErrToken)
	}
}

func TestWhatBeginsAStatement(t *testing.T) {
	begins := strings.Fields("rep peer world any unique int if while return delete this data Item }")
	for _, w := range strings.Fields(everyToken) {
		if !slices.Contains(begins, w) {
			wantFaultInBody(t, "^"+w+" x; }", api.ErrToken)
			wantFaultInBody(t, "^"+w+" x = 1; }", api.ErrToken)
			wantFaultInBody(t, "int x; ^"+w+" A x; }", api.ErrToken)
			wantFaultInBody(t, "x = 1; ^"+w+" = 1; }", api.ErrToken)
		}
	}
}

func TestStatements(t *testing.T) {
	for _, text := range []string{"x = 1;", "x = y.f;", "this.f = x;", "x = this.m(1, y);", "y.m();", "x = new a A<a>;", "x = cast a A y;", "x = move y;", "delete x;", "if (x < 1) { return; } else { x = y; }", "while (!x) { while (1) { } }", "return;", "return x;", strings.Repeat("if(1){", 20) + strings.Repeat("}", 20)} {
		l, _ := token.Of(text)
		s, _, f := stmt.Parse(l, 0, []string{"a"}, 0)
		if f != (api.Fault{}) {
			t.Fatalf("%q has the fault %v", text, f)
		}
		wantMethod(t, "int m() {"+text+"}", api.Method{Name: "m", Ret: number, Body: []api.Stmt{s}})
		wantMethod(t, "int m() { int n; "+text+" x = 1; "+text+"}", api.Method{Name: "m", Ret: number, Locals: []api.Var{field(number, "n")}, Body: []api.Stmt{s, {Kind: api.SSet, X: "x", E: api.Expr{Kind: api.EInt, Num: 1}}, s}})
	}
}

func TestFaultsOfWhatIsInAMethod(t *testing.T) {
	for marked, err := range map[string]api.Errno{
		"x = 1 + ^; }": api.ErrToken, "if (a < b ^< c) { } }": api.ErrToken, "return ^" + strings.Repeat("!", 20) + "1; }": api.ErrDeep, "return " + strings.Repeat("(", 20) + "^(1; }": api.ErrDeep, "x = nil(^1); }": api.ErrToken,
		"x = new ^c A; }": api.ErrOwner, "x = new A<^c>; }": api.ErrOwner, "x = new A<a, b, a, ^b>; }": api.ErrArity, "x = cast A<^unique> y; }": api.ErrToken, "x = new ^int; }": api.ErrToken, "x = cast ^void y; }": api.ErrToken,
		"y.m(1, 2, 3, 4, 5, ^6); }": api.ErrLarge, "x = move ^this; }": api.ErrToken, "^else { } }": api.ErrToken, "if (1) { ^": api.ErrToken, strings.Repeat("while(1){", 20) + "^return; }": api.ErrDeep, "x = 1 ^}": api.ErrToken, "return ^": api.ErrToken,
		"^c A x; }": api.ErrOwner, "A<^c> x; }": api.ErrOwner, "a A<a, b, peer, ^rep> x; }": api.ErrArity, "rep A<a ^b> x; }": api.ErrToken, "rep ^int x; }": api.ErrToken, "x <^1; }": api.ErrToken, "x <^y; }": api.ErrOwner, "unique A<^unique> x; }": api.ErrToken,
	} {
		wantFaultInBody(t, marked, err)
	}
	for marked, err := range map[string]api.Errno{
		"^c A x;": api.ErrOwner, "A<^c> x;": api.ErrOwner, "A<a, a, a, ^a> x;": api.ErrArity, "^c A m() { }": api.ErrOwner, "pure A<a, ^c> m() { }": api.ErrOwner, "void m(^c A x) { }": api.ErrOwner, "void m(A<^c> x) { }": api.ErrOwner, "int m(int n, A<a, a, b, ^b> x) { }": api.ErrArity, "int m(rep ^int x) { }": api.ErrToken,
		"A<^int> m() { }": api.ErrToken, "A ^this;": api.ErrToken,
	} {
		wantFaultIn(t, marked, err)
	}
	// Each class has owner parameters of its own.
	wantFault(t, "class A<a> { a A x; } class B<b> { b A x; a A x; }", api.ErrOwner, 42)
	wantFault(t, "class A<a> { a A x; } class B { a A x; }", api.ErrOwner, 32)
}

func TestOfTwoFaultsTheFirst(t *testing.T) {
	for marked, err := range map[string]api.Errno{
		"void x^; void y;": api.ErrToken, "^c A x; void x;": api.ErrOwner, "void m(A<a, b, a, ^b> x, void) { x = }": api.ErrArity, "void m(^void x, c A y) { }": api.ErrToken, "void m(int x) { c = ^} int": api.ErrToken, "void m() { x = ^; } c A x;": api.ErrToken,
		"void m() { x = new ^c A; y.m(1,2,3,4,5,6); }": api.ErrOwner, "void m() { y.m(1,2,3,4,5,^6); x = new c A; }": api.ErrLarge, "void m() { x = 1 ^int y; c A z; }": api.ErrToken, "void m() { ^c A x; x = ; }": api.ErrOwner, "int x ^int y; void z;": api.ErrToken,
		"void m(int a, int b, int c, int d, int e, ^void f) { x = }": api.ErrLarge, "void m(^c A a, int b, int c, int d, int e, int f) { }": api.ErrOwner, "void m() { return; } int m() ^c A": api.ErrToken, "void m() { x = ^)": api.ErrToken,
	} {
		wantFaultIn(t, marked, err)
	}
	wantFault(t, "class A<a, b, c, d> extends B<any> { }", api.ErrArity, 17)
	wantFault(t, "class A extends B<any> { void x; }", api.ErrOwner, 18)
	wantFault(t, "class A extends B<any> class", api.ErrOwner, 18)
	wantFault(t, "class A { void x; } klass", api.ErrToken, 16)
}

func TestTheFaultOfTheTokensComesFirst(t *testing.T) {
	for text, f := range map[string]api.Fault{
		"klass $": {Err: api.ErrByte, At: 6}, "class A<a, b, c, d> { #": {Err: api.ErrByte, At: 22}, "class A { void x; } \x80": {Err: api.ErrByte, At: 20}, "} 1234567890": {Err: api.ErrLong, At: 2}, "; " + strings.Repeat("x", 21): {Err: api.ErrLong, At: 2}, "class A & { }": {Err: api.ErrByte, At: 8}, "class A / { }": {Err: api.ErrByte, At: 8}, "class A { } 00": {Err: api.ErrLong, At: 12},
		strings.Repeat(" ", 16385): {Err: api.ErrLarge}, "$" + strings.Repeat(" ", 16384): {Err: api.ErrLarge}, strings.Repeat("class A { } ", 2000): {Err: api.ErrLarge},
	} {
		wantFault(t, text, f.Err, f.At)
	}
	wantRead(t, strings.Repeat(" ", 16384))
	wantRead(t, "class A { }"+strings.Repeat(" ", 16384-11), api.Class{Name: "A"})
}

// 9.1: bounds

func TestTwentyClasses(t *testing.T) {
	if l := read(t, times(20, "class A# { }")); len(l) != 20 || l[19].Name != "A19" {
		t.Errorf("20 classes are %s", told(l))
	}
	full := times(20, "class A { int n; } ")
	for _, behind := range []string{"", " A { }", " A", " 7", " class", " A<a, b, c, d> { }"} {
		wantFault(t, full+"class"+behind, api.ErrLarge, len(full))
	}
	wantFault(t, full+full, api.ErrLarge, len(full))
	for _, w := range strings.Fields(everyToken) {
		if w != "class" {
			wantFault(t, full+w+" A { }", api.ErrToken, len(full))
		}
	}
	wantFault(t, times(19, "class A { } ")+"klass A { }", api.ErrToken, 19*12)
	wantFault(t, times(19, "class A { } ")+"class A { class A { }", api.ErrToken, 19*12+10)
}

func TestTwelveFields(t *testing.T) {
	full := times(12, "int n#; ")
	wide := times(20, "class A#<a> { "+times(12, "int n; ")+"} ")
	if l := read(t, wide); len(l) != 20 || len(l[0].Fields) != 12 || len(l[19].Fields) != 12 {
		t.Errorf("classes of 12 fields are %s", told(l))
	}
	if l := read(t, "class A { "+full+" void m() { } }"); len(l[0].Fields) != 12 || l[0].Fields[11].Name != "n11" || len(l[0].Methods) != 1 {
		t.Errorf("a class of 12 fields is %s", told(l))
	}
	for _, x := range []string{"int", "A", "a A<b>", "unique A"} {
		for _, behind := range []string{"", " }", " int m;", " ;", " x"} {
			wantFaultAt(t, "class A<a, b> { "+full+x+" x ^;"+behind, api.ErrLarge)
			wantFaultAt(t, "class A<a, b> { "+full+" void m() { } "+x+" x ^;"+behind, api.ErrLarge)
		}
		wantFaultAt(t, "class A<a, b> { "+full+x+" x ^}", api.ErrToken)
		wantFaultAt(t, "class A<a, b> { "+full+x+" x^", api.ErrToken)
		wantFaultAt(t, "class A<a, b> { "+full+"pure "+x+" x^;", api.ErrToken)
		wantFaultAt(t, "class A<a, b> { "+full+x+" ^; }", api.ErrToken)
	}
	wantFaultAt(t, "class A { "+full+"void x^; }", api.ErrToken)
	wantFaultAt(t, "class A { "+full+"^c A x; }", api.ErrOwner)
	wantFaultAt(t, "class A { "+full+"int n0^; int n1; ", api.ErrLarge)
}

func TestTwelveMethods(t *testing.T) {
	full := times(12, "void m#() { } ")
	if l := read(t, times(20, "class A# { "+times(12, "void m() { } ")+"} ")); len(l) != 20 || len(l[0].Methods) != 12 || len(l[19].Methods) != 12 {
		t.Errorf("classes of 12 methods are %s", told(l))
	}
	if l := read(t, "class A { "+full+times(12, "int n; ")+" }"); len(l[0].Methods) != 12 || l[0].Methods[11].Name != "m11" || len(l[0].Fields) != 12 {
		t.Errorf("a class of 12 methods is %s", told(l))
	}
	for _, x := range []string{"void", "int", "A", "pure void", "pure int", "a A<b>"} {
		for _, behind := range []string{"", ") { } }", "void", "int a, int b, int c, int d, int e, int f) { }", ";", "("} {
			wantFaultAt(t, "class A<a, b> { "+full+x+" m^("+behind, api.ErrLarge)
			wantFaultAt(t, "class A<a, b> { int n; "+full+" int k; "+x+" m^("+behind, api.ErrLarge)
		}
		wantFaultAt(t, "class A<a, b> { "+full+x+" m ^) { }", api.ErrToken)
		wantFaultAt(t, "class A<a, b> { "+full+x+" m^", api.ErrToken)
		wantFaultAt(t, "class A<a, b> { "+full+x+"^() { }", api.ErrToken)
	}
	wantFaultAt(t, "class A { "+full+"^c A m() { } }", api.ErrOwner)
	wantFaultAt(t, "class A { "+full+"int n; void x^; }", api.ErrToken)
	wantFaultAt(t, "class A { "+times(12, "int n; ")+full+"int n^; }", api.ErrLarge)
	wantFaultAt(t, "class A { "+times(12, "int n; ")+full+"int n^() { } int n; }", api.ErrLarge)
}

func TestFiveParameters(t *testing.T) {
	five := "a A a, int b, int c, unique A<b> d, A<a> e"
	if l := read(t, "class A<a, b> { "+times(12, "void m("+five+") { } ")+" }"); len(l[0].Methods) != 12 || len(l[0].Methods[11].Params) != 5 {
		t.Errorf("methods of 5 parameters are %s", told(l))
	}
	for _, w := range strings.Fields(everyToken) {
		for _, behind := range []string{"", " x) { }", " A x) { }", ") { }", "; c A x;"} {
			wantFaultIn(t, "void m("+five+", ^"+w+behind+" ", api.ErrLarge)
		}
		if w != "," && w != ")" {
			wantFaultIn(t, "void m("+five+" ^"+w+" int f) { }", api.ErrToken)
		}
		if w != "int" && !slices.Contains(strings.Fields("rep peer world any unique data Item"), w) {
			wantFaultIn(t, "void m(int a, int b, int c, int d, ^"+w+" int f) { }", api.ErrToken)
		}
	}
	wantFaultIn(t, "void m("+five+", ^", api.ErrLarge)
	wantFaultIn(t, "pure int m("+five+", ^int f, int g) { }", api.ErrLarge)
	wantFaultIn(t, "void m(int a, int b, int c, int d, ^) { }", api.ErrToken)
	wantFaultIn(t, "void m(int a, int b, int c, int d, ^void e, int f) { }", api.ErrToken)
}

func TestTwelveLocalVariables(t *testing.T) {
	full := times(12, "int n#; ")
	if l := read(t, "class A { "+times(12, "void m(int a, int b, int c, int d, int e) { "+full+"x = 1; } ")+" }"); len(l[0].Methods) != 12 || len(l[0].Methods[0].Locals) != 12 || l[0].Methods[11].Locals[11].Name != "n11" || len(l[0].Methods[11].Body) != 1 {
		t.Errorf("methods of 12 local variables are %s", told(l))
	}
	for _, x := range []string{"int x;", "int", "A x;", "x y", "x < 1;", "rep", "rep A x; x = 1; }", "peer;", "world 7", "any A<c> x;", "unique = ", "a A x", "c A x;", "int x ;int y;"} {
		wantFaultInBody(t, full+"^"+x+" ", api.ErrLarge)
		wantFaultInBody(t, full+"^"+x+" } ", api.ErrLarge)
	}
	for marked, err := range map[string]api.Errno{"^void x; }": api.ErrToken, "x ^; }": api.ErrToken, "^pure int x; }": api.ErrToken, "x = 1; ^int y; }": api.ErrToken, "^": api.ErrToken, "^; }": api.ErrToken, "x = new ^c A; }": api.ErrOwner} {
		wantFaultInBody(t, full+marked, err)
	}
	wantFaultInBody(t, times(11, "int n; ")+"int n ^}", api.ErrToken)
	wantFaultInBody(t, full+"^"+full, api.ErrLarge)
}

func TestFourHundredStatements(t *testing.T) {
	all := "class A { void m() { " + times(400, "return; ")
	if l := read(t, all+"} }"); len(l[0].Methods[0].Body) != 400 {
		t.Errorf("400 statements are %s", told(l))
	}
	for _, behind := range []string{"return; } }", "x = 1;", "x = y.m();", "if (1) { }", "while (1) { return; }", "x = 1; int"} {
		wantFaultAt(t, all+"^"+behind, api.ErrLarge)
		wantFaultAt(t, all+"} void n() { int x; ^"+behind, api.ErrLarge)
		wantFaultAt(t, all+"} } class B { } class C<c> { int n; void n() { c A x; ^"+behind, api.ErrLarge)
	}
	wantFaultAt(t, "class A { void m() { } void n() { "+times(500, "return; ")[:400*8]+"^return; } }", api.ErrLarge)
	read(t, all+"} void n() { int x; } int x; } class B { void m() { } }")
}

func TestFourHundredStatementsOverSeveralMethods(t *testing.T) {
	twenty := times(20, "return;")
	ten := "class A { " + times(10, "void m() { "+times(4, "x = 1;")+" } ") + "} "
	if l := read(t, times(10, ten)); len(l) != 10 || len(l[9].Methods) != 10 || len(l[9].Methods[9].Body) != 4 {
		t.Errorf("400 statements in 100 methods are %s", told(l))
	}
	if l := read(t, times(20, "class A { void m() { "+twenty+" } } ")); len(l) != 20 || len(l[19].Methods[0].Body) != 20 {
		t.Errorf("400 statements in 20 classes are %s", told(l))
	}
	wantFault(t, times(19, "class A { void m() { "+twenty+" } } ")+"class A { void m() { "+twenty+"return; } }", api.ErrLarge, 19*(26+140)+21+140)
	wantFault(t, times(10, ten)+"class A { void m() { x = 1; } }", api.ErrLarge, 10*len(ten)+21)
	wantFaultAt(t, "class A { void m() { "+times(100, "return;")+" } void n() { "+times(150, "x = 1;")+" } int n; int o() { "+times(149, "x=y.m();")+" } } class B { void m() { return; ^return; } }", api.ErrLarge)
}

func TestStatementsWithinAStatementCount(t *testing.T) {
	three := []string{"if(1){return;return;}", "if(1){return;}else{return;}", "if(1){}else{return;return;}", "while(1){return;return;}", "while(1){while(1){return;}}"}
	for _, s := range three {
		ahead := "class A { void m() { " + times(133, s)
		for _, one := range []string{"return;", "if(1){}", "while(1){}", "if(1){}else{}"} {
			if l := read(t, ahead+one+"} }"); len(l[0].Methods[0].Body) != 134 {
				t.Errorf("400 statements, those within others counted, are %s", told(l))
			}
			wantFaultAt(t, ahead+one+"^return; } }", api.ErrLarge)
			wantFaultAt(t, ahead+one+"} int n() { ^"+one+" } }", api.ErrLarge)
		}
		for _, more := range append(three, "if(1){return;}", "while(1){x=1;}", "if(1){}else{x=1;}", "while(1){if(1){}}", "if(1){"+times(100, "x = 1;")+"}") {
			wantFaultAt(t, ahead+"^"+more+"return; } }", api.ErrLarge)
			wantFaultAt(t, ahead+"} void n() { ^"+more+"int x", api.ErrLarge)
		}
	}
}

func TestMoreStatementsThanMayBeWithinOne(t *testing.T) {
	for _, open := range []string{"while(1){", "if(1){", "if(1){}else{"} {
		read(t, "class A { void m() { "+open+times(399, "return;")+"} } }")
		wantFaultAt(t, "class A { void m() { ^"+open+times(400, "return;")+"} } }", api.ErrLarge)
		wantFaultAt(t, "class A { void m() { ^"+open+open+times(1000, "return;")+"}} int", api.ErrLarge)
		wantFaultAt(t, "class A { void m() { "+times(200, "x = 1;")+"^"+open+times(200, "return;")+"} } }", api.ErrLarge)
		wantFaultAt(t, "class A { void m() { "+times(200, "x = 1;")+" } void n() { ^"+open+times(200, "return;")+"} } }", api.ErrLarge)
		// It is asked as soon as the statement was read: what is wrong in it comes first.
		wantFaultAt(t, "class A { void m() { "+open+times(400, "return;")+"x = ^; } } }", api.ErrToken)
		wantFaultAt(t, "class A { void m() { "+open+times(400, "return;")+"x = new ^c A; } } }", api.ErrOwner)
		wantFaultAt(t, "class A { void m() { "+open+times(400, "return;")+"y.m(1,2,3,4,5,^6); } } }", api.ErrLarge)
		wantFaultAt(t, "class A { void m() { "+open+times(400, "return;")+"^", api.ErrToken)
		wantFaultAt(t, "class A { void m() { "+times(400, "return;")+"x = 1 ^} }", api.ErrToken)
		wantFaultAt(t, "class A { void m() { "+times(400, "return;")+"^int x; } }", api.ErrToken)
	}
}

func TestAllBoundsMetAtOnce(t *testing.T) {
	method := "int m(int a,int a,int a,int a,int a){" + times(12, "A a;") + "}"
	full := "class A<a,b,c>{" + times(12, "int a;") + times(11, method) + "int m(){" + times(400, "return;") + "}}"
	l := read(t, full+times(19, "class A<a,b,c>{"+times(12, "int a;")+times(12, "A a(){}")+"}"))
	if len(l) != 20 || len(l[0].Methods) != 12 || len(l[0].Methods[11].Body) != 400 || len(l[19].Methods) != 12 || len(l[19].Fields) != 12 {
		t.Errorf("a program of many parts is %s", told(l))
	}
}

// 9.2

// wantPlaces asks that at each place stands what is said to begin there.
func wantPlaces(t *testing.T, text string) {
	t.Helper()
	p := &places{T: t, text: text, at: map[int]int{}}
	var f api.Fault
	if p.l, f = token.Of(text); f != (api.Fault{}) {
		t.Fatalf("token.Of(%q) has the fault %v", text, f)
	}
	for i, x := range p.l {
		p.at[x.At] = i
	}
	last := -1
	for _, c := range read(t, text) {
		if c.At <= last || p.texts(c.At, 2) != "class "+c.Name {
			t.Errorf("in %q the class %s stands at %d", text, c.Name, c.At)
		}
		last = c.At
		p.params = c.Params
		p.vars(c.Fields, ";")
		for _, m := range c.Methods {
			p.method(m)
		}
	}
}

// places asks where parts of a text stand; at is which token stands at a byte.
type places struct {
	*testing.T
	text   string
	l      []api.Token
	at     map[int]int
	params []string
}

// texts are so many tokens from a byte on.
func (p *places) texts(at, n int) string {
	i, is := p.at[at]
	if !is {
		return "no token"
	}
	return token.Text(p.l[i:min(i+n, len(p.l))])
}

// vars asks where variables stand, behind each of which stands one of some tokens; each stands behind the one ahead.
func (p *places) vars(l []api.Var, ends string) {
	p.Helper()
	last := -1
	for _, v := range l {
		i, is := p.at[v.At]
		got, next, f := annot.Var(p.l, i, p.params)
		if !is || f != (api.Fault{}) || got != v || v.At <= last || !strings.Contains(ends, p.l[next].Text) {
			p.Errorf("in %q the variable %v stands at %d: %v", p.text, v, v.At, got)
		}
		last = v.At
	}
}

// method asks where a method stands, and what is in it.
func (p *places) method(m api.Method) {
	p.Helper()
	i, is := p.at[m.At]
	if pure := p.l[i].Text == "pure"; pure {
		i++
	}
	x, next, f := annot.Parse(p.l, i, p.params, true)
	if !is || f != (api.Fault{}) || x != m.Ret || p.l[next].Text != m.Name || p.l[next+1].Text != "(" || (p.l[p.at[m.At]].Text == "pure") != m.Pure {
		p.Errorf("in %q the method %s stands at %d", p.text, m.Name, m.At)
	}
	p.vars(m.Params, ",)")
	p.vars(m.Locals, ";")
	last := m.At
	for _, s := range m.Body {
		i, is := p.at[s.At]
		got, _, f := stmt.Parse(p.l, i, p.params, 0)
		if !is || f != (api.Fault{}) || fmt.Sprint(got) != fmt.Sprint(s) || s.At <= last {
			p.Errorf("in %q the statement %v stands at %d", p.text, s, s.At)
		}
		last = s.At
	}
}

func TestWhereAllStands(t *testing.T) {
	l := read(t, list)
	where := func(what string, at int, begins string) {
		t.Helper()
		if want := strings.Index(list, begins); at != want || want < 0 {
			t.Errorf("%s stands at %d, want %d", what, at, want)
		}
	}
	where("List", l[0].At, "class List")
	where("Item", l[1].At, "class Item")
	where("Base", l[2].At, "class Base")
	where("head", l[0].Fields[0].At, "rep Node<data> head")
	where("size", l[0].Fields[1].At, "int size")
	where("last", l[0].Fields[2].At, "unique Item<any> last")
	where("more", l[0].Fields[3].At, "data Item<rep, peer>")
	get := l[0].Methods[0]
	where("get", get.At, "pure data Item get")
	where("i", get.Params[0].At, "int i")
	where("d", get.Params[1].At, "any Item<key> d")
	where("e", get.Params[2].At, "Item e")
	where("x", get.Locals[0].At, "rep Node<data> x")
	where("n", get.Locals[1].At, "int n")
	where("y", get.Locals[2].At, "peer Item y")
	where("z", get.Locals[3].At, "Item z")
	where("the first statement", get.Body[0].At, "x = this.head")
	where("the second one", get.Body[1].At, "while")
	where("the first one in it", get.Body[1].Body[0].At, "n = n - 1")
	where("the second one in it", get.Body[1].Body[1].At, "if (nil")
	where("the one in its Body", get.Body[1].Body[1].Body[0].At, "return null")
	where("the one in its Else", get.Body[1].Body[1].Else[0].At, "x = x.next")
	where("the last one", get.Body[2].At, "return x")
	where("put", l[0].Methods[1].At, "void put")
	where("the second get", l[0].Methods[2].At, "int get(int n)")
	where("its parameter", l[0].Methods[2].Params[0].At, "int n) {")
	where("make", l[2].Methods[0].At, "void make")
	where("u", l[2].Methods[0].Locals[0].At, "unique Item u")
}

func TestRemarksAndBlanksBetweenAll(t *testing.T) {
	for _, text := range texts {
		want := read(t, text)
		wantPlaces(t, text)
		l, _ := token.Of(text)
		for _, between := range []string{" ", "\n", "\t\r \n", " // class B { }\n", "//\n", "// } ; //\n// $ \x80\n"} {
			var b strings.Builder
			b.WriteString(between)
			for _, x := range l {
				b.WriteString(x.Text + between)
			}
			wantRead(t, b.String(), want...)
			wantPlaces(t, b.String())
		}
	}
}

func TestWithoutBlanks(t *testing.T) {
	for _, text := range texts {
		var b strings.Builder
		l, _ := token.Of(text)
		for i, x := range l {
			if i > 0 && x.Kind < api.TSign && x.Kind != api.TEnd && l[i-1].Kind < api.TSign {
				b.WriteByte(' ')
			}
			b.WriteString(x.Text)
		}
		wantRead(t, b.String(), read(t, text)...)
		wantPlaces(t, b.String())
	}
}

// What is handed out, and wrong inputs

// lists does something to a program's lists, each one in turn.
func lists(l []api.Class, do func(owners *[]api.Owner, names *[]string, vars *[]api.Var, methods *[]api.Method, body *[]api.Stmt)) {
	for i := range l {
		c := &l[i]
		do(&c.Above, nil, nil, nil, nil)
		do(nil, &c.Params, nil, nil, nil)
		do(nil, nil, &c.Fields, nil, nil)
		for k := range c.Methods {
			m := &c.Methods[k]
			do(nil, nil, &m.Params, nil, nil)
			do(nil, nil, &m.Locals, nil, nil)
			do(nil, nil, nil, nil, &m.Body)
		}
		do(nil, nil, nil, &c.Methods, nil)
	}
}

func TestAnswersShareNothing(t *testing.T) {
	text := list + strings.ReplaceAll(list, "class ", "class X")
	want := told(read(t, text))
	first, second := read(t, text), read(t, text)
	lists(first, func(owners *[]api.Owner, names *[]string, vars *[]api.Var, methods *[]api.Method, body *[]api.Stmt) {
		// What is laid behind a list must not be seen in another one.
		switch {
		case owners != nil:
			_ = append(*owners, any0, any0)
		case names != nil:
			_ = append(*names, "spare", "spare")
		case vars != nil:
			_ = append(*vars, api.Var{}, api.Var{})
		case methods != nil:
			_ = append(*methods, api.Method{}, api.Method{})
		case body != nil:
			_ = append(*body, api.Stmt{}, api.Stmt{})
		}
		if told(first) != want {
			t.Fatalf("the answer has become %s", told(first))
		}
	})
	lists(first, func(owners *[]api.Owner, names *[]string, vars *[]api.Var, methods *[]api.Method, body *[]api.Stmt) {
		switch {
		case owners != nil:
			clear(*owners)
		case names != nil:
			clear(*names)
		case vars != nil:
			clear(*vars)
		case methods != nil:
			clear(*methods)
		case body != nil:
			for i := range *body {
				clear((*body)[i].Body)
				clear((*body)[i].Args)
			}
			clear(*body)
		}
		if told(second) != want {
			t.Fatalf("another answer has become %s", told(second))
		}
	})
	if told(read(t, text)) != want {
		t.Errorf("a later answer is another one")
	}
}

func TestListsOfOneAnswerShareNothing(t *testing.T) {
	l := read(t, list+list)
	seen := 0
	lists(l, func(owners *[]api.Owner, names *[]string, vars *[]api.Var, methods *[]api.Method, body *[]api.Stmt) {
		before := len(told(l))
		switch {
		case owners != nil && len(*owners) > 0:
			(*owners)[0].N = 7777777777
		case names != nil && len(*names) > 0:
			(*names)[0] += "7777777777"
		case vars != nil && len(*vars) > 0:
			(*vars)[0].Name += "7777777777"
		case body != nil && len(*body) > 0:
			(*body)[0].X += "7777777777"
		case methods != nil && len(*methods) > 0:
			(*methods)[0].Name += "7777777777"
		default:
			return
		}
		seen++
		if grown := len(told(l)) - before; grown > 10 {
			t.Errorf("with one part of %s others have changed", told(l))
		}
	})
	if seen != 26 {
		t.Errorf("%d lists have something in them", seen)
	}
}

func TestAnswersHangOnTheTextAlone(t *testing.T) {
	for range 3 {
		wantFault(t, "class A<a, b, c, d> { }", api.ErrArity, 17)
		wantFault(t, "class A { void m() { "+times(401, "return;")+"} }", api.ErrLarge, 21+400*7)
		wantRead(t, "class A { int n; }", api.Class{Name: "A", Fields: []api.Var{field(number, "n")}})
		wantFault(t, times(21, "class A { }"), api.ErrLarge, 220)
	}
}

func TestAnyBytes(t *testing.T) {
	for a := range 256 {
		for b := range 256 {
			askModel(t, string([]byte{byte(a), byte(b)}))
			askModel(t, "class A { "+string([]byte{byte(a), byte(b)}))
		}
	}
}

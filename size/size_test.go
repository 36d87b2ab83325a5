package size_test

import (
	"fmt"
	"math"
	"reflect"
	"slices"
	"strings"
	"testing"

	"demesne/api"
	"demesne/parse"
	"demesne/sample"
	"demesne/size"
)

// numbers are what a number is tried with, where any can be handed in.
var numbers = []int{math.MinInt, math.MinInt + 1, -77, -2, -1, 0, 1, 2, 77, math.MaxInt - 1, math.MaxInt}

// noNames are texts that name nothing.
var noNames = append(strings.Fields(sample.Words), "", " ", "1", "1a", "a b", " a", "a ", "a_b", "a.b", "A<b>", "\x00", "a\x00", "\xff", "é", strings.Repeat("a", api.MaxName+1), strings.Repeat("A", 1000))

// names are texts that name something, those of what else there is among them.
var names = []string{"a", "Z", "a9", "List", "data", "head", "get", "This", "ints", strings.Repeat("a", api.MaxName)}

// list is a program with much of what may stand in one.
const list = `class List<data, key> extends Base<data, world, peer> {
	rep Node<data> head;
	int size;
	Item any1;
	pure data Item get(int i, any Item<key> d, Item e) {
		rep Node<data> x;
		int n;
		Item y;
		x = this.head;
		while (0 < n) { n = n - 1; if (nil(x)) { return null; x = new Node<data>; } else { x = x.next(n, this); y = new key Item<any>; delete x; } }
		return x;
	}
	void put() { }
	Item last(unique Item<rep, peer> a) { if (1) { } else { y.f = a; y.m(); u = move v; x = cast Item y; return; } }
}
class Item { }
class Base<a, b, c> extends Item { unique Item<c> u; }`

// programs are texts that are read, with how great they are.
var programs = []struct {
	text  string
	great size.Counts
}{
	{"", size.Counts{}},
	{"class A { }", size.Counts{Classes: 1}},
	{"class A { A f; }", size.Counts{Classes: 1, Fields: 1, Holes: 1}},
	{"class A<a> extends B<a, peer, world> { } class A<b, b> extends A { }", size.Counts{Classes: 2}},
	{"class A { void m() { return; } int n() { } }", size.Counts{Classes: 1, Methods: 2, Stmts: 1, Deep: 1}},
	{"class A { A m(A a, A<rep> b, peer A c) { A d; int e; f = new A; g = cast A a; h = cast rep A a; } }", size.Counts{Classes: 1, Methods: 1, Vars: 5, Stmts: 3, Deep: 1, Holes: 6}},
	{list, size.Counts{Classes: 3, Fields: 4, Methods: 3, Vars: 7, Stmts: 16, Deep: 3, Holes: 6}},
}

func read(t *testing.T, text string) []api.Class {
	t.Helper()
	p, f := parse.Of(text)
	if f != (api.Fault{}) {
		t.Fatalf("parse.Of(%.200q) has the fault %v", text, f)
	}
	return p
}

func wantRight(t *testing.T, p []api.Class, want bool) {
	t.Helper()
	if got := size.Right(p); got != want {
		t.Errorf("Right(%.600s) = %v", told(p), got)
	}
}

func wantOf(t *testing.T, p []api.Class, want size.Counts) {
	t.Helper()
	if got := size.Of(p); got != want {
		t.Errorf("Of(%.600s) = %+v, want %+v", told(p), got, want)
	}
}

func wantSame(t *testing.T, a, b []api.Class, want bool) {
	t.Helper()
	if x, y := size.Same(a, b), size.Same(b, a); x != want || y != want {
		t.Errorf("Same(%.600s, %.600s) = %v, the other way round %v", told(a), told(b), x, y)
	}
}

func wantBare(t *testing.T, p []api.Class) {
	t.Helper()
	before := told(p)
	q := size.Bare(p)
	if told(q) != placeless(p) || told(p) != before {
		t.Errorf("Bare(%.600s) = %.600s", before, told(q))
	}
	wantSame(t, p, q, true)
	wantApart(t, p, q, size.Bare(p))
}

// class is a program of one class with two owner parameters.
func class(lay func(c *api.Class)) []api.Class {
	c := api.Class{Name: "A", Params: []string{"data", "key"}}
	lay(&c)
	return []api.Class{c}
}

// method is a program of one method.
func method(lay func(m *api.Method)) []api.Class {
	return class(func(c *api.Class) {
		c.Methods = []api.Method{{Name: "m"}}
		lay(&c.Methods[0])
	})
}

// body is a program of these statements.
func body(l ...api.Stmt) []api.Class {
	return method(func(m *api.Method) { m.Body = l })
}

var (
	number = api.Type{Kind: api.KInt}
	one    = api.Expr{Kind: api.EInt, Num: 1}
	back   = api.Stmt{Kind: api.SReturn}
)

func while(l ...api.Stmt) api.Stmt { return api.Stmt{Kind: api.SWhile, E: one, Body: l} }

func if0(l, other []api.Stmt) api.Stmt {
	return api.Stmt{Kind: api.SIf, E: one, Body: l, Else: other}
}

func backs(n int) []api.Stmt { return slices.Repeat([]api.Stmt{back}, n) }

func vars(n int) []api.Var { return slices.Repeat([]api.Var{{Name: "x", Type: number}}, n) }

// nested is a statement that is so deep, of whiles, of the Bodies of ifs, or of their Elses.
func nested(deep int, way string) api.Stmt {
	s := back
	for i := 1; i < deep; i++ {
		switch way {
		case "while":
			s = while(back, s)
		case "body":
			s = if0([]api.Stmt{s}, nil)
		default:
			s = if0([]api.Stmt{back}, []api.Stmt{s, back})
		}
	}
	return s
}

var ways = []string{"while", "body", "else"}

// 10.1: bounds

func TestNoClassAtAll(t *testing.T) {
	for _, p := range [][]api.Class{nil, {}, make([]api.Class, 0, 30)} {
		wantRight(t, p, true)
		wantOf(t, p, size.Counts{})
		wantBare(t, p)
		wantSame(t, p, nil, true)
		wantSame(t, p, []api.Class{{}}, false)
	}
}

func TestEmptyListsAreNone(t *testing.T) {
	none := api.Class{Name: "A", Params: []string{}, Above: []api.Owner{}, Fields: []api.Var{}, Methods: []api.Method{}}
	wantRight(t, []api.Class{none}, true)
	wantOf(t, []api.Class{none}, size.Counts{Classes: 1})
	wantSame(t, []api.Class{none}, read(t, "class A { }"), true)
	wantBare(t, []api.Class{none})
	none.Methods = []api.Method{{Name: "m", Params: []api.Var{}, Locals: []api.Var{}, Body: []api.Stmt{}}}
	s := while()
	s.E.Kids, s.Args, s.Body, s.Else = []api.Expr{}, []api.Expr{}, []api.Stmt{}, []api.Stmt{}
	for range 2 {
		wantRight(t, []api.Class{none}, true)
		wantBare(t, []api.Class{none})
		none.Methods[0].Body = []api.Stmt{s}
	}
	wantSame(t, []api.Class{none}, read(t, "class A { void m() { while (1) { } } }"), true)
}

// bounds are programs in which there is so much of something as is said, and how much there may be of it.
var bounds = map[string]struct {
	most int
	make func(n int) []api.Class
}{
	"classes": {20, func(n int) []api.Class { return slices.Repeat([]api.Class{{Name: "A"}}, n) }},
	"classes that are great": {20, func(n int) []api.Class {
		return slices.Repeat(class(func(c *api.Class) {
			c.Fields, c.Methods = vars(12), slices.Repeat([]api.Method{{Name: "m", Params: vars(5), Locals: vars(12), Body: backs(1)}}, 12)
			c.Methods[0].Body, c.Methods[1].Body = backs(10), nil
		}), n)
	}},
	"statements":           {400, func(n int) []api.Class { return body(backs(n)...) }},
	"statements in Body":   {399, func(n int) []api.Class { return body(while(backs(n)...)) }},
	"statements in Else":   {399, func(n int) []api.Class { return body(if0(nil, backs(n))) }},
	"statements in an if":  {200, func(n int) []api.Class { return body(if0(backs(199), backs(n))) }},
	"statements in others": {397, func(n int) []api.Class { return body(while(if0(nil, []api.Stmt{while(backs(n)...)}))) }},
	"statements in twos":   {200, func(n int) []api.Class { return body(slices.Repeat([]api.Stmt{while(back)}, n)...) }},
	"statements in two methods": {200, func(n int) []api.Class {
		return class(func(c *api.Class) {
			c.Methods = []api.Method{{Name: "m", Body: backs(200)}, {Name: "n"}, {Name: "m", Body: backs(n)}}
		})
	}},
	"statements in two classes": {100, func(n int) []api.Class { return slices.Concat(body(backs(n)...), body(), body(backs(300)...)) }},
	"owner parameters": {3, func(n int) []api.Class {
		return []api.Class{{Name: "A", Params: slices.Repeat([]string{"a"}, n)}}
	}},
	"owners behind the class above": {3, func(n int) []api.Class {
		return class(func(c *api.Class) { c.Super, c.Above = "B", slices.Repeat([]api.Owner{sample.World}, n) })
	}},
	"fields": {12, func(n int) []api.Class { return class(func(c *api.Class) { c.Fields = vars(n) }) }},
	"methods": {12, func(n int) []api.Class {
		return class(func(c *api.Class) { c.Methods = slices.Repeat([]api.Method{{Name: "m"}}, n) })
	}},
	"parameters":      {5, func(n int) []api.Class { return method(func(m *api.Method) { m.Params = vars(n) }) }},
	"local variables": {12, func(n int) []api.Class { return method(func(m *api.Method) { m.Locals = vars(n) }) }},
	"arguments": {5, func(n int) []api.Class {
		return body(while(api.Stmt{Kind: api.SCall, Y: "this", Name: "m", Args: slices.Repeat([]api.Expr{one}, n)}))
	}},
	"whiles": {20, func(n int) []api.Class { return body(nested(n, "while")) }},
	"ifs":    {20, func(n int) []api.Class { return body(back, nested(n, "body"), back) }},
	"elses":  {20, func(n int) []api.Class { return body(if0(backs(1), []api.Stmt{nested(n-1, "else")})) }},
}

func TestEachBound(t *testing.T) {
	for what, b := range bounds {
		for _, n := range []int{2, b.most - 1, b.most, b.most + 1, b.most + 2, 2*b.most + 7, 500} {
			if n < 2 || n == 500 && what == "classes that are great" {
				continue
			}
			p := b.make(n)
			if got := size.Right(p); got != (n <= b.most) {
				t.Errorf("with %d %s Right tells %v", n, what, got)
			}
			// Of counts what may not be, too.
			wantOf(t, p, counted(p))
			if n <= b.most+1 {
				wantBare(t, p)
			}
			if n <= b.most+1 && what != "classes" && what != "classes that are great" {
				other := slices.Concat(read(t, "class B { B f; }"), b.make(n), read(t, "class B { }"))
				if got := size.Right(other); got != (n <= b.most) {
					t.Errorf("with %d %s among other classes Right tells %v", n, what, got)
				}
			}
		}
	}
}

func TestEachClassAndMethodHasBoundsOfItsOwn(t *testing.T) {
	p := slices.Concat(bounds["classes that are great"].make(19), class(func(c *api.Class) { c.Fields = vars(1) }))
	wantRight(t, p, true)
	for i := range p {
		q := slices.Clone(p)
		q[i].Fields = vars(13)
		wantRight(t, q, false)
		q[i].Fields, q[i].Methods = nil, slices.Repeat([]api.Method{{Name: "m"}}, 13)
		wantRight(t, q, false)
		for k := range 12 {
			q[i].Methods = slices.Repeat([]api.Method{{Name: "m"}}, 12)
			q[i].Methods[k].Params = vars(6)
			wantRight(t, q, false)
			q[i].Methods[k] = api.Method{Name: "m", Locals: vars(13)}
			wantRight(t, q, false)
			q[i].Methods[k].Params = vars(6)
			wantRight(t, q, false)
		}
	}
}

// 10.1: names

// named are programs that are right if a text is a name.
var named = map[string]func(s string) []api.Class{
	"a class":      func(s string) []api.Class { return class(func(c *api.Class) { c.Name = s }) },
	"a parameter":  func(s string) []api.Class { return []api.Class{{Name: "A", Params: []string{s}}} },
	"a second one": func(s string) []api.Class { return class(func(c *api.Class) { c.Params[1] = s }) },
	"a last one":   func(s string) []api.Class { return class(func(c *api.Class) { c.Params = append(c.Params, s) }) },
	"a field": func(s string) []api.Class {
		return class(func(c *api.Class) { c.Fields = vars(2); c.Fields[1].Name = s })
	},
	"a method": func(s string) []api.Class { return method(func(m *api.Method) { m.Name = s }) },
	"a variable": func(s string) []api.Class {
		return method(func(m *api.Method) { m.Params = vars(3); m.Params[2].Name = s })
	},
	"a local one": func(s string) []api.Class {
		return method(func(m *api.Method) { m.Locals = vars(1); m.Locals[0].Name = s })
	},
	"a field's class": func(s string) []api.Class { return fieldOf(sample.Object(sample.Hole, s)) },
	"what is made": func(s string) []api.Class {
		return body(while(api.Stmt{Kind: api.SNew, X: "x", Type: sample.Object(sample.Hole, s)}))
	},
	"what is given": func(s string) []api.Class { return body(if0(nil, []api.Stmt{{Kind: api.SDelete, Y: s}})) },
	"a class with one above": func(s string) []api.Class {
		return []api.Class{{Name: s, Super: "B", Above: []api.Owner{sample.Peer}}}
	},
}

func TestEachNameIsOne(t *testing.T) {
	for what, make := range named {
		for _, s := range names {
			if !size.Right(make(s)) {
				t.Errorf("%q may not name %s", s, what)
			}
		}
		for _, s := range noNames {
			if size.Right(make(s)) || size.Right(slices.Concat(make("a"), make(s), make("b"))) {
				t.Errorf("%q may name %s", s, what)
			}
		}
	}
}

func TestTheNameOfTheClassAbove(t *testing.T) {
	for _, above := range [][]api.Owner{nil, {}, {sample.Peer}, {sample.Param(2), sample.World, sample.Param(1)}} {
		for _, s := range names {
			wantRight(t, class(func(c *api.Class) { c.Super, c.Above = s, above }), true)
		}
		for _, s := range noNames {
			wantRight(t, class(func(c *api.Class) { c.Super, c.Above = s, above }), s == "" && len(above) == 0)
		}
	}
}

func TestNamesMayBeAlike(t *testing.T) {
	wantRight(t, read(t, "class A<A, A, A> extends A<A, A> { A A; A A; A A(A A, A A) { A A; A A; A = A.A; } void A() { } } class A { }"), true)
	alike := class(func(c *api.Class) {
		c.Params = []string{"a", "a"}
		c.Fields = []api.Var{{Name: "a", Type: sample.Object(sample.Param(2), "a", sample.Param(2))}}
	})
	wantRight(t, alike, true)
}

func TestWhatIsNotKnownMayBe(t *testing.T) {
	wantRight(t, read(t, "class A extends B<peer> { C<peer, world> c; D m(E<any> e) { F f; x = y.z; g = new H; return i; } }"), true)
	wantRight(t, read(t, "class A extends B { } class B extends A { void m(int a, A a) { int a; } }"), true)
}

// 10.1: owners behind the class above

func TestEachOwnerBehindTheClassAbove(t *testing.T) {
	for kind := -2; kind <= 10; kind++ {
		for _, n := range append([]int{3, 4}, numbers...) {
			for params := range 4 {
				o := api.Owner{Kind: kind, N: n}
				want := (kind == api.OPeer || kind == api.OWorld) && n == 0 || kind == api.OParam && 1 <= n && n <= params
				for _, l := range [][]api.Owner{{o}, {sample.Peer, o}, {o, sample.World}, {sample.World, o, sample.Peer}, {sample.Peer, sample.Peer, o}} {
					c := api.Class{Name: "A", Params: []string{"a", "b", "c"}[:params], Super: "B", Above: l}
					wantRight(t, []api.Class{c}, want)
					wantRight(t, []api.Class{{Name: "B", Params: []string{"a", "b", "c"}}, c}, want)
					c.Super = ""
					wantRight(t, []api.Class{c}, false)
				}
			}
		}
	}
	for _, kind := range []int{math.MinInt, math.MaxInt, 256 + api.OPeer} {
		wantRight(t, class(func(c *api.Class) { c.Super, c.Above = "B", []api.Owner{{Kind: kind}} }), false)
	}
}

// 10.1: types

func fieldOf(x api.Type) []api.Class {
	return class(func(c *api.Class) { c.Fields = []api.Var{{Name: "n", Type: number}, {Name: "x", Type: x}} })
}

// typed are programs with a type, those of statements aside.
var typed = map[string]func(x api.Type) []api.Class{
	"a field": fieldOf,
	"what a method returns": func(x api.Type) []api.Class {
		return method(func(m *api.Method) { m.Ret = x })
	},
	"a parameter": func(x api.Type) []api.Class {
		return method(func(m *api.Method) { m.Params = vars(3); m.Params[1].Type = x })
	},
	"a local variable": func(x api.Type) []api.Class {
		return method(func(m *api.Method) { m.Locals = vars(2); m.Locals[1].Type = x })
	},
}

// within are statements with a type, in others and not.
var within = map[string]func(x api.Type) []api.Class{
	"new":        func(x api.Type) []api.Class { return body(back, made(x)) },
	"cast":       func(x api.Type) []api.Class { return body(given(x)) },
	"in a while": func(x api.Type) []api.Class { return body(while(back, made(x), back)) },
	"in an if":   func(x api.Type) []api.Class { return body(if0([]api.Stmt{given(x)}, nil)) },
	"in an else": func(x api.Type) []api.Class { return body(back, if0(nil, []api.Stmt{back, made(x)})) },
	"deep": func(x api.Type) []api.Class {
		s := given(x)
		for range 9 {
			s = if0(nil, []api.Stmt{while(s)})
		}
		return body(s, back)
	},
}

func made(x api.Type) api.Stmt { return api.Stmt{Kind: api.SNew, X: "x", Type: x} }

func given(x api.Type) api.Stmt {
	return api.Stmt{Kind: api.SCast, X: "x", Type: x, E: api.Expr{Kind: api.EThis}}
}

// wantTyped asks whether a type may be in all places but what a method returns, and whether it may be returned.
func wantTyped(t *testing.T, x api.Type, want, returned bool) {
	t.Helper()
	for what, make := range typed {
		want := want
		if what == "what a method returns" {
			want = returned
		}
		if p := make(x); size.Right(p) != want || size.Right(slices.Concat(make(number), p)) != want {
			t.Errorf("that %+v may be in %s is %v", x, what, !want)
		}
	}
	for what, make := range within {
		if p := make(x); size.Right(p) != (want && x.Kind == api.KObject) {
			t.Errorf("that %+v may be %s is %v", x, what, !want)
		}
	}
}

func TestEachKindOfType(t *testing.T) {
	for kind := -2; kind <= 6; kind++ {
		x := api.Type{Kind: kind}
		wantTyped(t, x, kind == api.KInt, kind == api.KInt || kind == api.KNone)
		x.Class = "A"
		wantTyped(t, x, false, false)
		x.Own[0] = sample.Rep
		wantTyped(t, x, kind == api.KObject, kind == api.KObject)
		x.Own[0] = sample.Hole
		wantTyped(t, x, kind == api.KObject, kind == api.KObject)
		x.Class = ""
		wantTyped(t, x, false, false)
	}
	for _, kind := range []int{math.MinInt, math.MaxInt, 256 + api.KObject, -api.KInt} {
		wantTyped(t, api.Type{Kind: kind}, false, false)
	}
}

func TestTypesThatMayNotBe(t *testing.T) {
	for _, o := range []api.Owner{sample.Rep, sample.Peer, sample.World, sample.Any, sample.Unique, sample.Param(1), sample.Param(2), sample.Hole} {
		wantTyped(t, sample.Object(o, "A"), true, true)
		wantTyped(t, sample.Object(o, "A", sample.Any, sample.Param(2), sample.Rep), true, true)
		if o != sample.Hole && o != sample.Unique {
			wantTyped(t, sample.Object(sample.Unique, "A", o, o), true, true)
		}
	}
	for _, o := range []api.Owner{{}, sample.Hidden, sample.Param(0), sample.Param(3), sample.Param(-1), {Kind: -1}, {Kind: 9}, {Kind: api.ORep, N: 1}, {Kind: api.OWorld, N: -1}} {
		wantTyped(t, sample.Object(o, "A"), false, false)
		wantTyped(t, sample.Object(sample.Rep, "A", sample.Any, o), false, false)
	}
	wantTyped(t, sample.Object(sample.Rep, "A", sample.Unique), false, false)
	for _, n := range append([]int{3, 4}, numbers...) {
		x := sample.Object(sample.Peer, "A", sample.Rep, sample.Rep)
		x.N = n
		wantTyped(t, x, n == 2, n == 2)
		wantTyped(t, api.Type{Kind: api.KInt, N: n}, n == 0, n == 0)
		wantTyped(t, api.Type{N: n}, false, n == 0)
	}
	for _, s := range noNames {
		wantTyped(t, sample.Object(sample.Peer, s), false, false)
	}
}

func TestOwnersBehindN(t *testing.T) {
	for _, o := range []api.Owner{sample.Rep, sample.World, sample.Param(1), sample.Hole, sample.Hidden, {N: 1}, {Kind: -1}} {
		for behind := range 3 {
			x := sample.Object(sample.Peer, "A", slices.Repeat([]api.Owner{sample.Any}, behind)...)
			for i := behind + 1; i < 4; i++ {
				y := x
				y.Own[i] = o
				wantTyped(t, y, false, false)
			}
		}
		wantTyped(t, api.Type{Own: [4]api.Owner{{}, {}, {}, o}}, false, false)
		wantTyped(t, api.Type{Kind: api.KInt, Own: [4]api.Owner{o}}, false, false)
	}
}

func TestTypesAreOpenAtTheirOwnerAtMost(t *testing.T) {
	for _, n := range append([]int{5, 8}, numbers...) {
		hole := api.Owner{Kind: api.OHole, N: n}
		for behind := range 4 {
			x := sample.Object(sample.Peer, "A", slices.Repeat([]api.Owner{sample.Any}, behind)...)
			for i := range 4 {
				y := x
				y.Own[i] = hole
				wantTyped(t, y, i == 0 && n == 0, i == 0 && n == 0)
				y.Own[0] = sample.Hole
				wantTyped(t, y, i == 0, i == 0)
				y.Own[3] = hole
				wantTyped(t, y, false, false)
			}
		}
	}
}

// 10.1: statements

func TestEachStatementMayBe(t *testing.T) {
	wrong := []api.Stmt{
		{}, {Kind: -1}, {Kind: api.SReturn + 1}, {Kind: api.SSet, X: "x"}, {Kind: api.SSet, E: one}, {Kind: api.SReturn, Y: "y"}, {Kind: api.SDelete}, {Kind: api.SDelete, Y: "this"}, {Kind: api.SWhile}, {Kind: api.SReturn, Body: backs(1)},
		{Kind: api.SNew, X: "x", Type: sample.Object(sample.Param(3), "A")}, {Kind: api.SNew, X: "x", Type: number}, {Kind: api.SCast, X: "x", Type: sample.Object(sample.Rep, "A"), E: one}, {Kind: api.SReturn, Type: sample.Object(sample.Rep, "A")},
		{Kind: api.SReturn, E: api.Expr{Kind: api.ENot}}, {Kind: api.SPut, Y: "y", Name: "f", E: api.Expr{Kind: api.EInt, Num: -1}}, nested(21, "while"), nested(30, "else"),
	}
	for i := range 20 {
		for _, way := range ways {
			for _, s := range append(wrong, back) {
				want := reflect.DeepEqual(s, back)
				deep := s
				for range i {
					deep = map[string]api.Stmt{"while": while(back, deep), "body": if0([]api.Stmt{back, deep, back}, backs(1)), "else": if0(backs(1), []api.Stmt{deep, back})}[way]
				}
				wantRight(t, body(deep), want)
				wantRight(t, body(back, deep, back), want)
				wantRight(t, slices.Concat(body(back), body(deep)), want)
			}
		}
	}
}

func TestStatementsAreAskedInTheirClass(t *testing.T) {
	for n := range 5 {
		for params := range 4 {
			c := api.Class{Name: "A", Params: []string{"a", "b", "c"}[:params], Methods: []api.Method{{Name: "m", Body: []api.Stmt{made(sample.Object(sample.Param(n), "A"))}}}}
			d := api.Class{Name: "A", Params: []string{"a", "b", "c"}[:params], Methods: []api.Method{{Name: "m", Ret: sample.Object(sample.Rep, "A", sample.Param(n))}}}
			for _, p := range [][]api.Class{{c}, {d}, {{Name: "B"}, c}, {d, {Name: "B", Params: []string{"a", "b", "c"}}}} {
				wantRight(t, p, 1 <= n && n <= params)
			}
		}
	}
}

func TestWhatStandsWithinItselfMayNotBe(t *testing.T) {
	endless := make([]api.Stmt, 2)
	endless[0], endless[1] = while(endless...), if0(endless, endless)
	wantRight := func(l ...api.Stmt) {
		if size.Right(body(l...)) {
			t.Errorf("a statement without an end may be")
		}
	}
	wantRight(endless[0])
	wantRight(endless[1], back)
	wantRight(back, while(endless...))
}

// 10.1, 10.2: what is changed

func TestEachThingChanged(t *testing.T) {
	for _, text := range append([]string{"class A { int n; void m() { int n; n = a + 2 < b && !nil(c); } }"}, textsOf()...) {
		p, before := read(t, text), read(t, text)
		was := placeless(p)
		rights := map[bool]int{}
		values(&p, func(way string, v reflect.Value) {
			change(v, func() {
				now, want := placeless(p), readable(p)
				rights[want]++
				if got := size.Right(p); got != want {
					t.Fatalf("with %s = %+v Right(%s) = %v", way, v, told(p), got)
				}
				if size.Same(p, before) != (now == was) || size.Same(before, p) != (now == was) {
					t.Fatalf("with %s = %+v Same(%s, %s) isn't %v", way, v, told(p), told(before), now == was)
				}
				if got := size.Of(p); got != counted(p) {
					t.Fatalf("with %s = %+v Of(%s) = %+v, want %+v", way, v, told(p), got, counted(p))
				}
				if got := told(size.Bare(p)); got != now {
					t.Fatalf("with %s = %+v Bare(%s) = %s", way, v, told(p), got)
				}
			})
		})
		if told(p) != told(before) || rights[true] == 0 || rights[false] == 0 || text != "" && rights[false] < 10 {
			t.Errorf("%q has become %s, %v", text, told(p), rights)
		}
	}
}

func textsOf() []string {
	var l []string
	for _, p := range programs {
		l = append(l, p.text)
	}
	return l
}

func TestAtAloneChanged(t *testing.T) {
	p, q := read(t, list), read(t, list)
	seen := 0
	values(&p, func(way string, v reflect.Value) {
		if !strings.HasSuffix(way, ".At") {
			return
		}
		seen++
		change(v, func() {
			wantSame(t, p, q, true)
			wantRight(t, p, true)
			wantBare(t, p)
			wantOf(t, p, size.Of(q))
			if told(size.Bare(p)) != told(size.Bare(q)) {
				t.Errorf("with %s = %v Bare tells another program", way, v)
			}
		})
	})
	if seen != 33 {
		t.Errorf("%d parts stand somewhere", seen)
	}
}

func TestNobodyCouldHaveReadThese(t *testing.T) {
	l := scribbled(1000)
	for i, p := range l {
		before := told(p)
		want := readable(p)
		wantRight(t, p, want)
		wantOf(t, p, counted(p))
		wantBare(t, p)
		for _, q := range [][]api.Class{p, l[(i+1)%len(l)], l[i/2]} {
			wantSame(t, p, q, placeless(p) == placeless(q))
		}
		if told(p) != before {
			t.Fatalf("%s has become %s", before, told(p))
		}
	}
}

// 10.2

func TestExampleOfTheChapter(t *testing.T) {
	wantOf(t, read(t, "class A { A f; }"), size.Counts{Classes: 1, Fields: 1, Holes: 1})
}

func TestHowGreatProgramsAre(t *testing.T) {
	for _, p := range programs {
		l := read(t, p.text)
		wantOf(t, l, p.great)
		twice := p.great
		twice.Classes, twice.Fields, twice.Methods, twice.Vars, twice.Stmts, twice.Holes = 2*twice.Classes, 2*twice.Fields, 2*twice.Methods, 2*twice.Vars, 2*twice.Stmts, 2*twice.Holes
		wantOf(t, slices.Concat(l, l), twice)
	}
}

func TestHolesOfEachPlace(t *testing.T) {
	for _, places := range []map[string]func(api.Type) []api.Class{typed, within} {
		for what, make := range places {
			for kind := -1; kind <= 4; kind++ {
				for i := range 4 {
					for _, n := range numbers {
						for _, behind := range []int{-1, 0, 3, 4} {
							x := api.Type{Kind: kind, Class: "A", N: behind}
							x.Own[i] = api.Owner{Kind: api.OHole, N: n}
							want := 0
							if kind == api.KObject && i == 0 {
								want = 1
							}
							if got := size.Of(make(x)).Holes; got != want {
								t.Fatalf("%+v in %s is %d holes", x, what, got)
							}
						}
					}
				}
			}
		}
	}
}

func TestAHoleIsOneWhateverTheStatementIs(t *testing.T) {
	x := sample.Object(sample.Hole, "A", sample.Hole, sample.Hole)
	for kind := -1; kind <= api.SReturn+1; kind++ {
		s := api.Stmt{Kind: kind, Type: x}
		s.Body, s.Else = []api.Stmt{s, back, s}, []api.Stmt{s}
		wantOf(t, body(s, s), size.Counts{Classes: 1, Methods: 1, Stmts: 10, Deep: 2, Holes: 8})
	}
}

func TestHowDeepStatementsAreNested(t *testing.T) {
	deep := func(want int, l ...api.Stmt) {
		t.Helper()
		if got := size.Of(body(l...)).Deep; got != want {
			t.Errorf("statements that are %d deep are %d deep", want, got)
		}
	}
	deep(0)
	deep(1, back)
	deep(1, while())
	deep(1, if0(nil, nil), back)
	deep(2, back, while(back), back)
	deep(2, if0(nil, backs(1)))
	deep(2, if0(backs(2), backs(1)), while(while()))
	deep(3, if0(nil, []api.Stmt{while(back)}))
	deep(3, if0(backs(1), []api.Stmt{if0(backs(1), nil)}))
	deep(5, if0([]api.Stmt{nested(4, "else")}, []api.Stmt{nested(3, "else")}), nested(4, "while"))
	deep(5, nested(4, "while"), if0([]api.Stmt{nested(3, "body")}, []api.Stmt{nested(4, "body")}))
	deep(2, api.Stmt{Kind: api.SReturn, Body: backs(1)})
	deep(2, api.Stmt{Else: []api.Stmt{{}}})
	for _, way := range ways {
		for _, n := range []int{1, 2, 19, 20, 21, 5000} {
			deep(n, nested(n, way))
			deep(n, back, nested(n, way), back)
		}
	}
	p := slices.Concat(body(nested(2, "while")), body(), body(nested(4, "else")), body(nested(3, "while")))
	wantOf(t, p, size.Counts{Classes: 4, Methods: 4, Stmts: 18, Deep: 4})
}

func TestSameIsOfAllClasses(t *testing.T) {
	l := make([][]api.Class, 0, 9)
	for _, p := range programs {
		l = append(l, read(t, p.text))
	}
	for i, p := range l {
		for k, q := range l {
			wantSame(t, p, q, i == k)
			wantSame(t, slices.Concat(p, q), slices.Concat(p, q, p), len(p) == 0)
		}
		wantSame(t, p, read(t, "\n // c\n "+strings.ReplaceAll(programs[i].text, " ", "\n\t ")), true)
	}
	a, b := l[1][0], l[2][0]
	wantSame(t, []api.Class{a, b}, []api.Class{b, a}, false)
	wantSame(t, []api.Class{a, b}, []api.Class{a, b}, true)
	wantSame(t, []api.Class{a, a}, []api.Class{a, b}, false)
}

func TestBareOfEachAt(t *testing.T) {
	for _, p := range programs {
		l := read(t, "  "+p.text)
		bare := size.Bare(l)
		wantBare(t, l)
		wantBare(t, bare)
		values(&bare, func(way string, v reflect.Value) {
			if strings.HasSuffix(way, ".At") && v.Int() != 0 {
				t.Errorf("of %q %s is %d", p.text, way, v.Int())
			}
		})
	}
	// What a kind has not stays as well: nobody asks whether a program may be.
	all := api.Stmt{Kind: 77, X: "x", Y: "y", Name: "n", Type: sample.Object(sample.Hole, "A", sample.Hidden), E: api.Expr{Kind: 77, Num: 7, Name: "e", Kids: []api.Expr{one, {Kids: []api.Expr{one}}}}, Args: []api.Expr{{Kids: []api.Expr{one}}, {}}, At: 7}
	inner := all
	inner.At = -7
	all.Body, all.Else = []api.Stmt{inner, inner}, []api.Stmt{inner}
	wantBare(t, body(all, while(all)))
	wantBare(t, body(nested(200, "else")))
}

// 10.3

func TestWhatIsReadMayBe(t *testing.T) {
	for _, p := range programs {
		l, other := read(t, p.text), read(t, " "+strings.ReplaceAll(p.text, " ", "  \n"))
		wantRight(t, l, true)
		wantRight(t, size.Bare(l), true)
		wantSame(t, l, size.Bare(l), true)
		wantSame(t, l, other, true)
		if a, b := fmt.Sprint(size.Bare(l)), fmt.Sprint(size.Bare(other)); a != b {
			t.Errorf("what is the same has the Bare ones %s and %s", a, b)
		}
		if p.text != "" && told(l) == told(other) {
			t.Errorf("%q stands where it stands otherwise, too", p.text)
		}
	}
}

// R3 to R5

func TestAnswersShareNothing(t *testing.T) {
	p := read(t, list+strings.ReplaceAll(list, "class ", "class X"))
	before := told(p)
	a, b := size.Bare(p), size.Bare(p)
	wantApart(t, p, a, b, size.Bare(a))
	want := told(a)
	values(&a, func(way string, v reflect.Value) {
		if v.Kind() == reflect.Int {
			v.SetInt(77)
		}
	})
	if told(p) != before || told(b) != want || told(a) == want {
		t.Errorf("with one answer others have changed")
	}
	values(&p, func(way string, v reflect.Value) {
		if v.Kind() == reflect.String {
			v.SetString("")
		}
	})
	if told(b) != want || told(size.Bare(read(t, list+strings.ReplaceAll(list, "class ", "class X")))) != want {
		t.Errorf("with what was handed in an answer has changed")
	}
}

package show_test

import (
	"math/rand/v2"
	"slices"
	"strings"
	"testing"

	"demesne/api"
	"demesne/parse"
	"demesne/sample"
	"demesne/show"
	"demesne/size"
	"demesne/stmt"
)

// list is a program with much of what may stand in one, as it is written.
const list = `class List<data, key> extends Base<data, world, peer> {
	rep Node<data> head;
	int size;
	any Item<rep, peer, key> last;
	Item open;
	pure data Item get(int i, any Item<key> d, Item e) {
		rep Node<data> x;
		int n;
		Item y;
		x = this.head;
		while (0 < n && !nil(x)) {
			n = (n - 1) * 2;
			if (same(x, null)) {
				return null;
			} else {
				if (1) {
				} else {
					x = x.next(n, this);
				}
			}
			if (input) {
				y = new key Item<any>;
				delete x;
			}
		}
		return x;
	}
	void put() {
	}
	pure int get() {
		this.put();
		return;
	}
	unique Item<rep> last(unique Item<rep, peer> a) {
		y.f = a;
		u = move v;
		x = cast Item<world> y;
		x = cast rep Item this;
		x = new Item;
		return a == 3;
	}
}
class Item {
}
class Base<a, b, c> extends Item {
	unique Item<c> u;
}
`

// canon are programs as they are written.
var canon = []string{
	"",
	"class A {\n}\n",
	"class A {\n}\nclass A {\n}\n",
	"class A<d> {\n}\n",
	"class A<d, e> {\n}\n",
	"class A<f, d, e> {\n}\n",
	"class A extends B {\n}\n",
	"class A extends B<peer> {\n}\n",
	"class A extends B<world, peer> {\n}\n",
	"class A<d> extends B {\n}\n",
	"class A<d> extends B<d> {\n}\n",
	"class A<d, e> extends A<e, world> {\n}\n",
	"class A<d, e, f> extends B<f, d, e> {\n}\nclass B<d, e, f> {\n}\n",
	"class A {\n\tint n;\n}\n",
	"class A {\n\tA a;\n\tint a;\n}\n",
	"class A {\n\tvoid m() {\n\t}\n}\n",
	"class A {\n\tpure void m() {\n\t}\n}\n",
	"class A {\n\tint n;\n\tint n() {\n\t\tint n;\n\t}\n\tpure A m() {\n\t}\n}\n",
	"class A {\n\tvoid m() {\n\t\treturn;\n\t}\n}\n",
	"class A {\n\tvoid m() {\n\t\tif (a < b) {\n\t\t\tx = this;\n\t\t} else {\n\t\t\treturn;\n\t\t}\n\t}\n}\n",
	"class A {\n\tvoid m() {\n\t\twhile (1) {\n\t\t}\n\t\tif (x) {\n\t\t}\n\t}\n}\n",
	"class A {\n\tint m(int a, int b, A c, any A<world> d, peer B e) {\n\t\treturn a - (b - 1);\n\t}\n}\n",
	list,
}

func read(t *testing.T, text string) []api.Class {
	t.Helper()
	p, f := parse.Of(text)
	if f != (api.Fault{}) {
		t.Fatalf("parse.Of(%.300q) has the fault %v", text, f)
	}
	return p
}

func wantText(t *testing.T, p []api.Class, want string) {
	t.Helper()
	if got := show.Text(p); got != want {
		t.Errorf("Text(%.600s) = %q, want %q", told(p), got, want)
	}
	wantModel(t, p)
}

func wantClass(t *testing.T, c api.Class, want string) {
	t.Helper()
	if got := show.Class(c); got != want {
		t.Errorf("Class(%.600s) = %q, want %q", told(c), got, want)
	}
	wantText(t, []api.Class{c}, want)
}

// wantHeads asks what is told of a method, in this class and in those with other methods, too.
func wantHeads(t *testing.T, c api.Class, m api.Method, want string) {
	t.Helper()
	wrong := api.Method{Name: "1"}
	for _, l := range [][]api.Method{c.Methods, nil, {}, {m}, {method()}, {wrong}, {m, wrong}, {wrong, m}, slices.Repeat([]api.Method{m}, 13), {{Name: "m", Body: backs(401)}}} {
		// What stands in the room behind a list must stay, too.
		l = append(slices.Clip(l), wrong)[:len(l)]
		c.Methods = l
		before := told(c) + told(l[:len(l)+1]) + told(m)
		if got := show.Head(c, m); got != want {
			t.Errorf("Head(%.600s, %.300s) = %q, want %q", told(c), told(m), got, want)
		}
		wantHead(t, c, m)
		if now := told(c) + told(l[:len(l)+1]) + told(m); now != before {
			t.Errorf("%.600s has become %.600s", before, now)
		}
	}
}

// method is a method that may be.
func method() api.Method {
	return api.Method{Name: "get", Pure: true, Ret: number, Params: vars(2), Locals: vars(1), Body: backs(1)}
}

// class is a class that may be, with two owner parameters.
func class(lay func(c *api.Class)) api.Class {
	c := api.Class{Name: "A", Params: []string{"d", "e"}, Super: "B", Above: []api.Owner{sample.Param(2)}, Fields: vars(2), Methods: []api.Method{method()}}
	lay(&c)
	return c
}

var (
	number = api.Type{Kind: api.KInt}
	back   = api.Stmt{Kind: api.SReturn}
)

func vars(n int) []api.Var {
	return slices.Repeat([]api.Var{{Name: "x", Type: number, At: 7}}, n)
}

func backs(n int) []api.Stmt { return slices.Repeat([]api.Stmt{back}, n) }

func while(l ...api.Stmt) api.Stmt {
	return api.Stmt{Kind: api.SWhile, E: api.Expr{Kind: api.EInt, Num: 1}, Body: l}
}

func nested(deep int) api.Stmt {
	s := back
	for range deep - 1 {
		s = while(s)
	}
	return s
}

// 11.1 Text

func TestExampleOfTheChapter(t *testing.T) {
	want := "class A<d> extends B<d> {\n\td C f;\n}\n"
	wantText(t, read(t, "class A<d> extends B<d> { d C f; }"), want)
	c := api.Class{Name: "A", Params: []string{"d"}, Super: "B", Above: []api.Owner{sample.Param(1)}, Fields: []api.Var{{Name: "f", Type: sample.Object(sample.Param(1), "C")}}}
	wantClass(t, c, want)
}

func TestExampleOfTheWhole(t *testing.T) {
	wantText(t, read(t, "class Main { rep Main f; void main() { } }"), "class Main {\n\trep Main f;\n\tvoid main() {\n\t}\n}\n")
}

func TestNoClassAtAll(t *testing.T) {
	for _, p := range [][]api.Class{nil, {}, make([]api.Class, 0, 9)} {
		wantText(t, p, "")
	}
}

func TestProgramsAsTheyAreWritten(t *testing.T) {
	for _, text := range canon {
		wantText(t, read(t, text), text)
		// However it was read, it is written so.
		wantText(t, read(t, strings.ReplaceAll(text, "\t", "")), text)
		wantText(t, read(t, strings.Join(strings.Fields(text), " ")), text)
		wantText(t, read(t, strings.ReplaceAll(text, "\n", " // c\n\n\r\t")), text)
		wantText(t, size.Bare(read(t, " "+text)), text)
	}
}

func TestClassesOneBehindTheOther(t *testing.T) {
	for _, a := range canon {
		for _, b := range canon {
			wantText(t, read(t, a+b), a+b)
		}
	}
}

func TestFieldsStandAheadOfMethods(t *testing.T) {
	wantText(t, read(t, "class A { void m() { } int n; int o() { } A p; void m() { } }"), "class A {\n\tint n;\n\tA p;\n\tvoid m() {\n\t}\n\tint o() {\n\t}\n\tvoid m() {\n\t}\n}\n")
}

func TestNilAndEmptyLists(t *testing.T) {
	wantClass(t, api.Class{Name: "A"}, "class A {\n}\n")
	wantClass(t, api.Class{Name: "A", Params: []string{}, Above: []api.Owner{}, Fields: []api.Var{}, Methods: []api.Method{}}, "class A {\n}\n")
	wantClass(t, api.Class{Name: "A", Super: "B", Above: []api.Owner{}}, "class A extends B {\n}\n")
	m := api.Method{Name: "m"}
	empty := api.Method{Name: "m", Params: []api.Var{}, Locals: []api.Var{}, Body: []api.Stmt{}}
	wantClass(t, api.Class{Name: "A", Methods: []api.Method{m, empty}}, "class A {\n\tvoid m() {\n\t}\n\tvoid m() {\n\t}\n}\n")
	wantHeads(t, api.Class{Name: "A"}, empty, "void m()")
	s := while()
	s.E.Kids, s.Args, s.Body, s.Else = []api.Expr{}, []api.Expr{}, []api.Stmt{}, []api.Stmt{}
	empty.Body = []api.Stmt{s}
	wantClass(t, api.Class{Name: "A", Methods: []api.Method{empty}}, "class A {\n\tvoid m() {\n\t\twhile (1) {\n\t\t}\n\t}\n}\n")
}

// typed are types of a class with the owner parameters d and e, as they are written.
var typed = map[string]api.Type{
	"int":                  number,
	"A":                    sample.Object(sample.Hole, "A"),
	"A<rep>":               sample.Object(sample.Hole, "A", sample.Rep),
	"A<e, d, any>":         sample.Object(sample.Hole, "A", sample.Param(2), sample.Param(1), sample.Any),
	"rep A":                sample.Object(sample.Rep, "A"),
	"peer A":               sample.Object(sample.Peer, "A"),
	"world A":              sample.Object(sample.World, "A"),
	"any A":                sample.Object(sample.Any, "A"),
	"unique A":             sample.Object(sample.Unique, "A"),
	"d A":                  sample.Object(sample.Param(1), "A"),
	"e d":                  sample.Object(sample.Param(2), "d"),
	"unique List<d, peer>": sample.Object(sample.Unique, "List", sample.Param(1), sample.Peer),
	"e A<world>":           sample.Object(sample.Param(2), "A", sample.World),
	"peer A<e, e, e>":      sample.Object(sample.Peer, "A", sample.Param(2), sample.Param(2), sample.Param(2)),
}

func TestEachType(t *testing.T) {
	for text, x := range typed {
		c := api.Class{Name: "A", Params: []string{"d", "e"}}
		v := []api.Var{{Name: "x", Type: x}, {Name: "n", Type: number}, {Name: "y", Type: x, At: -1}}
		c.Fields = v
		wantClass(t, c, "class A<d, e> {\n\t"+text+" x;\n\tint n;\n\t"+text+" y;\n}\n")
		c.Fields, c.Methods = nil, []api.Method{{Name: "m", Ret: x, Params: v, Locals: v}}
		head := text + " m(" + text + " x, int n, " + text + " y)"
		wantClass(t, c, "class A<d, e> {\n\t"+head+" {\n\t\t"+text+" x;\n\t\tint n;\n\t\t"+text+" y;\n\t}\n}\n")
		wantHeads(t, c, c.Methods[0], head)
		c.Methods[0].Pure = true
		wantHeads(t, c, c.Methods[0], "pure "+head)
		if x.Kind == api.KObject {
			c.Methods = []api.Method{{Name: "m", Body: []api.Stmt{while(api.Stmt{Kind: api.SNew, X: "x", Type: x}), {Kind: api.SCast, X: "x", Type: x, E: api.Expr{Kind: api.ENull}}}}}
			wantClass(t, c, "class A<d, e> {\n\tvoid m() {\n\t\twhile (1) {\n\t\t\tx = new "+text+";\n\t\t}\n\t\tx = cast "+text+" null;\n\t}\n}\n")
		}
	}
}

func TestHowManyParametersAndVariables(t *testing.T) {
	for n := range 6 {
		var l []string
		var m api.Method
		m.Name = "m"
		for i := range n {
			name := strings.Repeat("p", i+1)
			l = append(l, "int "+name)
			m.Params = append(m.Params, api.Var{Name: name, Type: number})
		}
		want := "void m(" + strings.Join(l, ", ") + ")"
		wantHeads(t, api.Class{Name: "A"}, m, want)
		for _, locals := range []int{0, 1, 2, 12} {
			m.Locals, m.Body = vars(locals), backs(n)
			wantClass(t, api.Class{Name: "A", Methods: []api.Method{m, m}}, "class A {\n"+strings.Repeat("\t"+want+" {\n"+strings.Repeat("\t\tint x;\n", locals)+strings.Repeat("\t\treturn;\n", n)+"\t}\n", 2)+"}\n")
		}
	}
	wantClass(t, api.Class{Name: "A", Fields: vars(12)}, "class A {\n"+strings.Repeat("\tint x;\n", 12)+"}\n")
	wantClass(t, api.Class{Name: "A", Methods: slices.Repeat([]api.Method{{Name: "m"}}, 12)}, "class A {\n"+strings.Repeat("\tvoid m() {\n\t}\n", 12)+"}\n")
	wantText(t, slices.Repeat([]api.Class{{Name: "A"}}, 20), strings.Repeat("class A {\n}\n", 20))
}

func TestStatementsAreThoseOfTheirLayer(t *testing.T) {
	c := read(t, list)[0]
	for _, m := range c.Methods {
		for i, s := range m.Body {
			one := api.Class{Name: "A", Params: c.Params, Methods: []api.Method{{Name: "m", Body: []api.Stmt{s}}, {Name: "n", Body: m.Body[i:]}}}
			var rest strings.Builder
			for _, s := range m.Body[i:] {
				rest.WriteString(stmt.Text(s, c.Params, 2))
			}
			wantClass(t, one, "class A<data, key> {\n\tvoid m() {\n"+stmt.Text(s, c.Params, 2)+"\t}\n\tvoid n() {\n"+rest.String()+"\t}\n}\n")
		}
	}
}

func TestStatementsThatAreNestedDeep(t *testing.T) {
	want := ""
	for i := range 19 {
		want = strings.Repeat("\t", 20-i) + "while (1) {\n" + want + strings.Repeat("\t", 20-i) + "}\n"
		if i == 0 {
			want = strings.Repeat("\t", 20) + "while (1) {\n" + strings.Repeat("\t", 21) + "return;\n" + strings.Repeat("\t", 20) + "}\n"
		}
	}
	wantClass(t, api.Class{Name: "A", Methods: []api.Method{{Name: "m", Body: []api.Stmt{nested(20)}}}}, "class A {\n\tvoid m() {\n"+want+"\t}\n}\n")
	wantClass(t, api.Class{Name: "A", Methods: []api.Method{{Name: "m", Body: []api.Stmt{nested(21)}}}}, "")
}

func TestTwoParametersOfOneName(t *testing.T) {
	c := api.Class{Name: "A", Params: []string{"d", "d", "e"}, Super: "B", Above: []api.Owner{sample.Param(2), sample.Param(1)}, Fields: []api.Var{{Name: "x", Type: sample.Object(sample.Param(2), "C", sample.Param(3), sample.Param(2))}}}
	text := "class A<d, d, e> extends B<d, d> {\n\td C<e, d> x;\n}\n"
	wantClass(t, c, text)
	// It is read as another program, which is written the same.
	p := read(t, text)
	if size.Same(p, []api.Class{c}) {
		t.Errorf("%q is read as the second parameter of the name", text)
	}
	wantText(t, p, text)
	wantText(t, read(t, show.Text(p)), text)
	m := api.Method{Name: "m", Ret: sample.Object(sample.Param(2), "d"), Params: []api.Var{{Name: "d", Type: sample.Object(sample.Param(1), "d")}}}
	wantHeads(t, c, m, "d d m(d d d)")
}

// 11.1: what may not be

// wrongClasses are what may be wrong with a class, its methods aside.
var wrongClasses = map[string]func(c *api.Class){
	"its name":                 func(c *api.Class) { c.Name = "a_" },
	"no name":                  func(c *api.Class) { c.Name = "" },
	"a parameter":              func(c *api.Class) { c.Params = []string{"d", "rep"} },
	"a fourth parameter":       func(c *api.Class) { c.Params = []string{"d", "e", "f", "g"} },
	"what is above":            func(c *api.Class) { c.Super = "this" },
	"owners of nothing":        func(c *api.Class) { c.Super = "" },
	"a fourth owner":           func(c *api.Class) { c.Above = slices.Repeat([]api.Owner{sample.Peer}, 4) },
	"rep behind the one above": func(c *api.Class) { c.Above = []api.Owner{sample.Rep} },
	"any behind the one above": func(c *api.Class) { c.Above = []api.Owner{sample.Peer, sample.Any} },
	"a hole behind it":         func(c *api.Class) { c.Above = []api.Owner{sample.Hole} },
	"no such parameter":        func(c *api.Class) { c.Above = []api.Owner{sample.Param(3)} },
	"too few parameters":       func(c *api.Class) { c.Params = c.Params[:1] },
	"a field's name":           func(c *api.Class) { c.Fields[1].Name = "1" },
	"a field's type":           func(c *api.Class) { c.Fields[0].Type = api.Type{} },
	"a field's owner":          func(c *api.Class) { c.Fields[1].Type = sample.Object(sample.Param(3), "A") },
	"a field's null":           func(c *api.Class) { c.Fields[1].Type = api.Type{Kind: api.KNull} },
	"a field's hole":           func(c *api.Class) { c.Fields[1].Type = sample.Object(sample.Rep, "A", sample.Hole) },
	"a field's second hole": func(c *api.Class) {
		c.Fields[0].Type = sample.Object(api.Owner{Kind: api.OHole, N: 1}, "A")
	},
	"a thirteenth field": func(c *api.Class) { c.Fields = vars(13) },
}

// wrongMethods are what may be wrong with a method.
var wrongMethods = map[string]func(m *api.Method){
	"its name":         func(m *api.Method) { m.Name = "void" },
	"no name":          func(m *api.Method) { m.Name = "" },
	"what it returns":  func(m *api.Method) { m.Ret = api.Type{Kind: api.KInt, N: 1} },
	"its owner":        func(m *api.Method) { m.Ret = sample.Object(sample.Hidden, "A") },
	"a parameter":      func(m *api.Method) { m.Params[1].Name = "a b" },
	"a void one":       func(m *api.Method) { m.Params[0].Type = api.Type{} },
	"its hole":         func(m *api.Method) { m.Params[0].Type = sample.Object(sample.Any, "A", sample.Any, sample.Hole) },
	"a sixth one":      func(m *api.Method) { m.Params = vars(6) },
	"a local variable": func(m *api.Method) { m.Locals[0].Name = "" },
	"a void local one": func(m *api.Method) { m.Locals[0].Type.Kind = api.KNone },
	"a thirteenth one": func(m *api.Method) { m.Locals = vars(13) },
	"a statement":      func(m *api.Method) { m.Body = append(backs(3), api.Stmt{}) },
	"one within":       func(m *api.Method) { m.Body = []api.Stmt{while(while(api.Stmt{Kind: api.SDelete}))} },
	"a deep one":       func(m *api.Method) { m.Body = []api.Stmt{nested(21)} },
	"a type within": func(m *api.Method) {
		m.Body = []api.Stmt{while(api.Stmt{Kind: api.SNew, X: "x", Type: sample.Object(sample.Hole, "A", sample.Hole)})}
	},
	"too much of all":    func(m *api.Method) { m.Body = backs(401) },
	"too much within it": func(m *api.Method) { m.Body = []api.Stmt{while(backs(400)...)} },
}

func TestClassesThatMayNotBe(t *testing.T) {
	good := class(func(*api.Class) {})
	text := show.Class(good)
	if text == "" {
		t.Fatal("the class is not written")
	}
	for what, lay := range wrongClasses {
		c := class(lay)
		wantClass(t, c, "")
		wantText(t, []api.Class{c, good}, "")
		wantText(t, []api.Class{good, good, c}, "")
		wantHeads(t, c, method(), "")
		if t.Failed() {
			t.Fatal(what)
		}
	}
	wantText(t, []api.Class{good, good}, text+text)
	wantText(t, []api.Class{{}}, "")
}

func TestMethodsThatMayNotBe(t *testing.T) {
	for what, lay := range wrongMethods {
		m := method()
		m.Params, m.Locals = slices.Clone(m.Params), slices.Clone(m.Locals)
		lay(&m)
		for _, l := range [][]api.Method{{m}, {method(), m}, {m, method()}} {
			c := class(func(c *api.Class) { c.Methods = l })
			wantClass(t, c, "")
			wantText(t, []api.Class{{Name: "A"}, c}, "")
			wantHeads(t, c, m, "")
			wantHeads(t, c, method(), "pure int get(int x, int x)")
		}
		if t.Failed() {
			t.Fatal(what)
		}
	}
	wantHeads(t, api.Class{}, api.Method{}, "")
	wantHeads(t, class(func(*api.Class) {}), api.Method{}, "")
}

func TestClassesThatMayBeWhereTheProgramMayNot(t *testing.T) {
	many := slices.Repeat([]api.Class{{Name: "A"}}, 21)
	wantText(t, many, "")
	wantClass(t, many[20], "class A {\n}\n")
	half := api.Class{Name: "A", Methods: []api.Method{{Name: "m", Body: backs(200)}}}
	more := api.Class{Name: "A", Methods: []api.Method{{Name: "m", Body: backs(201)}}}
	text := "class A {\n\tvoid m() {\n" + strings.Repeat("\t\treturn;\n", 200) + "\t}\n}\n"
	wantText(t, []api.Class{half, half}, text+text)
	wantText(t, []api.Class{half, more}, "")
	wantClass(t, half, text)
	wantClass(t, more, strings.Replace(text, "\t\treturn;\n", "\t\treturn;\n\t\treturn;\n", 1))
	wantText(t, []api.Class{half, {Name: "A", Params: []string{"a", "1"}}}, "")
}

func TestHeadOfAMethodThatIsNotOfTheClass(t *testing.T) {
	for _, text := range canon {
		for _, c := range read(t, text) {
			wantHeads(t, c, method(), "pure int get(int x, int x)")
			wantHeads(t, c, api.Method{Name: "m", Ret: sample.Object(sample.Param(4), "A")}, "")
		}
	}
	m := api.Method{Name: "m", Ret: sample.Object(sample.Param(1), "A")}
	wantHeads(t, api.Class{Name: "A"}, api.Method{Name: "m", Body: backs(400)}, "void m()")
	wantHeads(t, api.Class{Name: "A"}, m, "")
	wantHeads(t, api.Class{Name: "A", Params: []string{"owner"}}, m, "owner A m()")
}

func TestHeadsOfAProgram(t *testing.T) {
	c := read(t, list)[0]
	for i, want := range []string{"pure data Item get(int i, any Item<key> d, Item e)", "void put()", "pure int get()", "unique Item<rep> last(unique Item<rep, peer> a)"} {
		wantHeads(t, c, c.Methods[i], want)
	}
}

// 11.2

// long is a program of so many bytes, and its text.
func long(t *testing.T, bytes int) ([]api.Class, string) {
	t.Helper()
	const ahead, behind, line = "class A {\n\tvoid m() {\n", "\t}\n}\n", "\t\tx = a + b;\n"
	more := bytes - len(ahead) - len(behind) - 400*len(line)
	text := ahead
	body := make([]api.Stmt, 400)
	for i := range body {
		var kids [2]api.Expr
		for k, name := range []string{"a", "b"} {
			grown := min(more, api.MaxName-1)
			more -= grown
			kids[k] = api.Expr{Kind: api.EVar, Name: strings.Repeat(name, 1+grown)}
		}
		body[i] = api.Stmt{Kind: api.SSet, X: "x", E: api.Expr{Kind: api.EAdd, Kids: kids[:]}}
		text += "\t\tx = " + kids[0].Name + " + " + kids[1].Name + ";\n"
	}
	text += behind
	if len(text) != bytes {
		t.Fatalf("the text has %d bytes, want %d", len(text), bytes)
	}
	return []api.Class{{Name: "A", Methods: []api.Method{{Name: "m", Body: body}}}}, text
}

func TestLongTexts(t *testing.T) {
	for _, bytes := range []int{6000, api.MaxText - 1, api.MaxText, api.MaxText + 1, 20000} {
		p, text := long(t, bytes)
		wantText(t, p, text)
		q, f := parse.Of(text)
		if bytes <= api.MaxText && (f != (api.Fault{}) || !size.Same(p, q)) || bytes > api.MaxText && f != (api.Fault{Err: api.ErrLarge}) {
			t.Errorf("a text of %d bytes is read with the fault %v", bytes, f)
		}
		wantHeads(t, p[0], p[0].Methods[0], "void m()")
	}
}

func TestATextThatIsWrittenLonger(t *testing.T) {
	text := "class A{void m(){" + strings.Repeat("while(1){", 19) + strings.Repeat("return;", 381) + strings.Repeat("}", 19) + "}}"
	p := read(t, text)
	if got := show.Text(p); len(got) <= len(text)+381*21 {
		t.Errorf("%q is written %q", text, got)
	}
	text = "class A{void m(){" + strings.Repeat("while(1){", 19) + strings.Repeat("a=bbbbbbbbbbbbbbbbbbbb;", 381) + strings.Repeat("}", 19) + "}}"
	want := strings.Repeat(strings.Repeat("\t", 21)+"a = bbbbbbbbbbbbbbbbbbbb;\n", 381)
	if got := show.Text(read(t, text)); len(got) <= api.MaxText || !strings.Contains(got, "{\n"+want+strings.Repeat("\t", 20)+"}\n") {
		t.Errorf("a text of %d bytes is written in %d", len(text), len(got))
	}
}

func TestReadAndWrittenAgain(t *testing.T) {
	for _, text := range append(canon, "class A{A f;void m(){x=((a));if((a<b)){}else{}}int n;}", "class A<a,a>extends B<a>{a A<a>a;}// c", "class A { void m() { x = ((a + b)) + (c * d) - (e - f); } }") {
		p := read(t, text)
		once := show.Text(p)
		q := read(t, once)
		twice := show.Text(q)
		if !size.Same(p, q) || once != twice || told(read(t, twice)) != told(q) {
			t.Errorf("%q is written %q, and then %q", text, once, twice)
		}
	}
}

func TestProgramsMadeAtRandom(t *testing.T) {
	r := rand.New(rand.NewPCG(11, 2))
	written, bytes := 0, 0
	for range 1000 {
		p := sample.Right(r.IntN)
		if !size.Right(p) {
			t.Fatalf("%s may not be", told(p))
		}
		wantModel(t, p)
		if text := show.Text(p); text != "" {
			written, bytes = written+1, max(bytes, len(text))
		}
		for i := range p {
			// With parameters of one name the program is written as it would be with unlike ones.
			if n := len(p[i].Params); n > 1 {
				p[i].Params = slices.Clone(p[i].Params)
				p[i].Params[n-1] = "second"
				want := show.Text(p)
				p[i].Params[n-1] = p[i].Params[0]
				if got := show.Text(p); renamed(want) != renamed(got) || got == want {
					t.Fatalf("%q is written %q where two parameters have one name", want, got)
				}
			}
		}
	}
	if written < 700 || bytes < 2000 {
		t.Errorf("only %d programs have classes, the longest has %d bytes", written, bytes)
	}
}

// renamed is a text in which the names of owner parameters are all the same.
func renamed(text string) string {
	return strings.NewReplacer("second", "d", "owner", "d", "A", "d").Replace(text)
}

// R1, R4: programs that nobody could have read

func TestEachPartChanged(t *testing.T) {
	for _, text := range canon {
		p := read(t, text)
		l := sample.PartsOf(p)
		for _, n := range l.Ints {
			for _, x := range sample.OddInts() {
				wantChanged(t, p, n, x)
			}
		}
		for _, s := range l.Texts {
			for _, x := range sample.OddTexts() {
				wantChanged(t, p, s, x)
			}
		}
		for _, b := range l.Bools {
			wantChanged(t, p, b, !*b)
		}
		wantText(t, p, text)
	}
}

// wantChanged asks of a program with another value at one place.
func wantChanged[T any](t *testing.T, p []api.Class, at *T, x T) {
	t.Helper()
	old := *at
	*at = x
	wantModel(t, p)
	*at = old
}

func TestNobodyCouldHaveReadThese(t *testing.T) {
	r := rand.New(rand.NewPCG(11, 1))
	for i := range 2000 {
		p := sample.Odd(r.IntN, i%5)
		wantModel(t, p)
		for _, c := range p {
			wantHead(t, c, method())
			for _, other := range p {
				for _, m := range other.Methods {
					wantHead(t, c, m)
				}
			}
		}
	}
}

func TestWhatStandsWithinItselfIsNotWritten(t *testing.T) {
	endless := make([]api.Stmt, 2)
	endless[0], endless[1] = while(endless...), api.Stmt{Kind: api.SIf, E: endless[0].E, Body: endless, Else: endless}
	sum := api.Expr{Kind: api.EAdd, Kids: make([]api.Expr, 2)}
	sum.Kids[0], sum.Kids[1] = sum, sum
	for _, s := range append(endless, api.Stmt{Kind: api.SReturn, E: sum}) {
		c := api.Class{Name: "A", Methods: []api.Method{{Name: "m", Body: []api.Stmt{back, s}}}}
		if show.Text([]api.Class{c}) != "" || show.Class(c) != "" || show.Head(c, c.Methods[0]) != "" {
			t.Errorf("what has no end is written")
		}
		if got := show.Head(c, method()); got != "pure int get(int x, int x)" {
			t.Errorf("Head = %q beside a method without an end", got)
		}
	}
}

func TestAnswersHangOnTheProgramAlone(t *testing.T) {
	p := read(t, list)
	for range 3 {
		wantText(t, p, list)
		wantText(t, []api.Class{{}}, "")
		wantHeads(t, p[0], p[0].Methods[1], "void put()")
	}
}

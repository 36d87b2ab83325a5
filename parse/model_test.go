package parse_test

import (
	"strings"
	"testing"

	"demesne/annot"
	"demesne/api"
	"demesne/parse"
	"demesne/sample"
	"demesne/stmt"
	"demesne/token"
)

// reading is a model of how programs are read: what is still to come is a stack of symbols, and a table says what each stands for.
type reading struct {
	l       []api.Token
	at      int
	stmts   int
	stack   []string
	classes []api.Class
	fault   api.Fault
}

// symbols are what the symbols of the table stand for, by the token that is next, or whatever that is.
// Symbols in capitals are those of the table; those that begin with a - have a method of the model, all others are tokens.
// A program is P, owner parameters are D and more of them E, what is above is U and its owners O, members M, what stands behind a member's name B, of a method alone A,
// parameters V and more of them W, local variables L, statements S.
var symbols = map[string]string{
	"P end":     "",
	"P class":   "-class class -title D U { M } P",
	"D <":       "< -owner E >",
	"D":         "",
	"E ,":       ", -owner E",
	"E":         "",
	"U extends": "extends -super O",
	"U":         "",
	"O <":       "-above",
	"O":         "",
	"M }":       "",
	"M pure":    "-member -pure pure -type -name A M",
	"M void":    "-member -type -name A M",
	"M":         "-member -type -name B M",
	"B (":       "A",
	"B ;":       "-field ;",
	"A (":       "-method ( V ) { L S }",
	"V )":       "",
	"V":         "-param W",
	"W ,":       ", -param W",
	"W":         "",
	"L begins":  "-local ; L",
	"L":         "S",
	"S }":       "",
	"S":         "-stmt S",
}

// next is the next token, and how the table calls it.
func (r *reading) next() (api.Token, string) {
	t := r.l[r.at]
	if t.Kind == api.TEnd {
		return t, "end"
	}
	return t, t.Text
}

// program reads all tokens.
func (r *reading) program() ([]api.Class, api.Fault) {
	for r.stack = []string{"P"}; len(r.stack) > 0; {
		s := r.stack[0]
		r.stack = r.stack[1:]
		switch {
		case strings.HasPrefix(s, "-"):
			r.act(s[1:])
		case strings.ToUpper(s) == s && s != strings.ToLower(s):
			r.unfold(s)
		default:
			r.token(s)
		}
		if r.fault != (api.Fault{}) {
			return nil, r.fault
		}
	}
	return r.classes, api.Fault{}
}

// unfold lays on the stack what the table says of a symbol.
func (r *reading) unfold(s string) {
	_, next := r.next()
	if s == "L" && annot.Begins(r.l, r.at) {
		next = "begins"
	}
	for _, row := range []string{s + " " + next, s} {
		if l, is := symbols[row]; is {
			r.stack = append(strings.Fields(l), r.stack...)
			return
		}
	}
	r.wrong(api.ErrToken)
}

// token reads a token.
func (r *reading) token(s string) {
	if _, next := r.next(); next != s {
		r.wrong(api.ErrToken)
		return
	}
	r.at++
}

// wrong ends all with a fault of the next token.
func (r *reading) wrong(err api.Errno) {
	t, _ := r.next()
	r.fault = api.Fault{Err: err, At: t.At}
}

// class is the last class, method its last method; what a member is its name tells not, so that a field is a method at first.
func (r *reading) class() *api.Class   { return &r.classes[len(r.classes)-1] }
func (r *reading) method() *api.Method { return &r.class().Methods[len(r.class().Methods)-1] }

// act does what a symbol that begins with a - stands for.
func (r *reading) act(what string) {
	t, _ := r.next()
	switch what {
	case "class":
		r.classes = append(r.classes, api.Class{At: t.At})
		r.bound(len(r.classes) > 20)
	case "title", "owner", "super", "name":
		r.name(what)
	case "above":
		r.above()
	case "member":
		r.class().Methods = append(r.class().Methods, api.Method{At: t.At})
	case "pure":
		r.method().Pure = true
	case "type":
		r.method().Ret, r.at, r.fault = annot.Parse(r.l, r.at, r.class().Params, true)
	case "field":
		m := *r.method()
		r.class().Methods = r.class().Methods[:len(r.class().Methods)-1]
		r.class().Fields = append(r.class().Fields, api.Var{Name: m.Name, Type: m.Ret, At: m.At})
		r.bound(len(r.class().Fields) > 12)
	case "method":
		r.bound(len(r.class().Methods) > 12)
	case "param":
		r.bound(len(r.method().Params) == 5)
		r.variable(&r.method().Params)
	case "local":
		r.bound(len(r.method().Locals) == 12)
		r.variable(&r.method().Locals)
	case "stmt":
		r.statement()
	}
}

// bound ends all where a bound is passed.
func (r *reading) bound(passed bool) {
	if passed {
		r.wrong(api.ErrLarge)
	}
}

// name reads a name.
func (r *reading) name(what string) {
	t, _ := r.next()
	switch c := r.class(); {
	case t.Kind != api.TName:
		r.wrong(api.ErrToken)
	case what == "title":
		c.Name = t.Text
	case what == "super":
		c.Super = t.Text
	case what == "name":
		r.method().Name = t.Text
	case len(c.Params) == 3:
		r.wrong(api.ErrArity)
	default:
		c.Params = append(c.Params, t.Text)
	}
	r.at++
}

// above reads owners behind the class above.
func (r *reading) above() {
	first := r.at
	r.class().Above, r.at, r.fault = annot.Owners(r.l, r.at, r.class().Params)
	for _, t := range r.l[first:max(first, r.at)] {
		if r.fault == (api.Fault{}) && (t.Text == "rep" || t.Text == "any") {
			r.fault = api.Fault{Err: api.ErrOwner, At: t.At}
		}
	}
}

// variable reads a variable into a list, unless there is a fault already.
func (r *reading) variable(into *[]api.Var) {
	if r.fault == (api.Fault{}) {
		var v api.Var
		v, r.at, r.fault = annot.Var(r.l, r.at, r.class().Params)
		*into = append(*into, v)
	}
}

// statement reads a statement of a method's own.
func (r *reading) statement() {
	s, next, fault := stmt.Parse(r.l, r.at, r.class().Params, 0)
	if r.fault = fault; fault != (api.Fault{}) {
		return
	}
	r.stmts += stmt.Size(s)
	r.bound(r.stmts > 400)
	r.method().Body = append(r.method().Body, s)
	r.at = next
}

// askModel asks that a text is read as the model reads it, and tells whether more behind the text could change the answer.
func askModel(t *testing.T, text string) bool {
	t.Helper()
	l, fault := token.Of(text)
	var want []api.Class
	if fault == (api.Fault{}) {
		want, fault = (&reading{l: l}).program()
	}
	got, f := parse.Of(text)
	if f != fault || told(got) != told(want) {
		t.Fatalf("Of(%q) = %s, %v, want %s, %v", text, told(got), f, told(want), fault)
	}
	return f == api.Fault{} || f.At == len(text)
}

// wantModel asks that all texts that begin so, and go on with these tokens, up to where more of them change nothing any more, are read as the model reads them.
func wantModel(t *testing.T, first, tokens string, most int) {
	t.Helper()
	sample.Longer(first, tokens, most, func(text string) bool {
		t.Helper()
		return askModel(t, text)
	})
}

func TestAllShortTextsAreReadAsTheModelReadsThem(t *testing.T) {
	wantModel(t, "", everyToken, 4)
	wantModel(t, "", "class A < , > extends { }", 11)
	wantModel(t, "class A extends B", "< > , rep peer any A {", 10)
	wantModel(t, "class A<a, b", ", c > extends {", 8)
	wantModel(t, "class A {", everyToken, 3)
	wantModel(t, "class A {", "pure void int x ( ) { } ;", 9)
	wantModel(t, "class A { int x ;", "pure void int x ( ) ; }", 7)
	wantModel(t, "class A { void m (", "int x , rep ) {", 9)
	wantModel(t, "class A { void m ( ) {", everyToken, 2)
	wantModel(t, "class A { void m ( ) {", "int x ; = 7 }", 9)
	wantModel(t, "class A { void m ( ) { int x ;", "rep x < > ; return }", 8)
}

func TestAllTextsNearBoundsAreReadAsTheModelReadsThem(t *testing.T) {
	for _, n := range []int{11, 12} {
		wantModel(t, "class A { "+strings.Repeat("int x ; ", n), "int void pure x ; (", 7)
		wantModel(t, "class A { "+strings.Repeat("void m ( ) { } ", n), "int void pure x ; ( ) {", 7)
		wantModel(t, "class A { void m ( ) { "+strings.Repeat("int x ; ", n), "int rep x ; < > =", 6)
	}
	for _, n := range []int{19, 20} {
		wantModel(t, strings.Repeat("class A { } ", n), "class A { } int", 8)
	}
	for _, n := range []int{4, 5} {
		wantModel(t, "class A { void m ( "+strings.Repeat("int x , ", n-1), "int rep x , )", 6)
		wantModel(t, "class A { void m ( "+strings.Repeat("int x , ", n), "int rep x , )", 6)
	}
	for _, n := range []int{397, 398, 399, 400} {
		wantModel(t, "class A { void m ( ) { "+strings.Repeat("while ( 1 ) { } ", 100)+strings.Repeat("return ; ", n-100), "return ; } { int x", 4)
		wantModel(t, "class A { void m ( ) { "+strings.Repeat("return ; ", n)+" while ( x ) {", "return ; } while", 5)
	}
}

// wantAllNear asks that a text is read as the model reads it, whatever token is left out, laid between or laid in another one's place, and wherever it ends.
func wantAllNear(t *testing.T, text string) {
	t.Helper()
	l, _ := token.Of(text)
	for i := range l {
		ahead, here, behind := text[:l[i].At], l[i].Text, text[l[i].At+len(l[i].Text):]
		askModel(t, ahead)
		askModel(t, ahead+here)
		askModel(t, ahead+behind)
		for _, w := range strings.Fields(everyToken) {
			askModel(t, ahead+" "+w+" "+behind)
			askModel(t, ahead+" "+w+" "+here+behind)
		}
	}
}

func TestAllTextsNearAProgramAreReadAsTheModelReadsThem(t *testing.T) {
	for _, text := range texts {
		askModel(t, text)
		wantAllNear(t, text)
	}
}

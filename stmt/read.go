package stmt

import (
	"demesne/annot"
	"demesne/api"
	"demesne/cursor"
	"demesne/expr"
	"demesne/token"
)

// reader reads statements that stand in a class whose owner parameters have these names.
type reader struct {
	cursor.Cursor
	params []string
	// nest is in how many others the next statement is nested.
	nest int
}

// wrong is what reading is left with by a panic, as soon as something is wrong.
type wrong api.Fault

// Parse tells the statement from a token on, which is nested in so many others, and the place of the token behind it, or the first fault.
func Parse(l []api.Token, at int, params []string, nest int) (api.Stmt, int, api.Fault) {
	return read(newReader(l, at, params, nest), (*reader).stmt)
}

// Block tells the statements between a { and a } from a token on, which are nested in so many others, and the place of the token behind them, or the first fault.
func Block(l []api.Token, at int, params []string, nest int) ([]api.Stmt, int, api.Fault) {
	return read(newReader(l, at, params, nest), (*reader).block)
}

// newReader tells a reader ahead of the token at a place.
func newReader(l []api.Token, at int, params []string, nest int) *reader {
	return &reader{Cursor: cursor.New(l, at), params: params, nest: max(nest, 0)}
}

// read tells what a function reads, and the place of the token behind it, or the fault that it is left with.
func read[T any](r *reader, parse func(*reader) T) (what T, next int, fault api.Fault) {
	defer func() {
		switch w := recover().(type) {
		case nil:
		case wrong:
			fault = api.Fault(w)
		default:
			panic(w)
		}
	}()
	what = parse(r)
	return what, r.Place(), api.Fault{}
}

// must tells what was read, unless something is wrong: with that reading is left.
func must[T any](what T, fault api.Fault) T {
	if fault.Err != api.OK {
		panic(wrong(fault))
	}
	return what
}

// fail leaves reading with the fault of a token.
func fail(err api.Errno, t api.Token) {
	panic(wrong(cursor.Wrong(err, t)))
}

// want goes on behind the next token, which has to be such a word of the language, or sign.
func (r *reader) want(s string) {
	must(s, r.Want(s))
}

// name reads a name.
func (r *reader) name() string {
	return must(r.Name())
}

// expr reads an expression.
func (r *reader) expr() api.Expr {
	return must(cursor.Read(&r.Cursor, expr.Parse))
}

// object reads an object's type; named tells whether a name or the like is to follow behind it.
func (r *reader) object(named bool) api.Type {
	first := r.Token()
	t := must(cursor.Read(&r.Cursor, func(l []api.Token, at int) (api.Type, int, api.Fault) {
		return annot.Parse(l, at, r.params, named)
	}))
	if t.Kind != api.KObject {
		fail(api.ErrToken, first)
	}
	return t
}

// block reads a {, statements, and a }.
func (r *reader) block() []api.Stmt {
	var l []api.Stmt
	r.want("{")
	for !r.Skip("}") {
		l = append(l, r.stmt())
	}
	return l
}

// inner reads the statements between a { and a } that stand in the one that is being read.
func (r *reader) inner() []api.Stmt {
	r.nest++
	l := r.block()
	r.nest--
	return l
}

// stmt reads a statement.
func (r *reader) stmt() api.Stmt {
	first := r.Token()
	if r.nest >= api.MaxNest {
		fail(api.ErrDeep, first)
	}
	s := r.parts()
	s.At = first.At
	return s
}

// parts reads all of a statement but where it stands.
func (r *reader) parts() api.Stmt {
	switch {
	case r.Skip("if"):
		s := api.Stmt{Kind: api.SIf, E: r.asked(), Body: r.inner()}
		if r.Skip("else") {
			s.Else = r.inner()
		}
		return s
	case r.Skip("while"):
		return api.Stmt{Kind: api.SWhile, E: r.asked(), Body: r.inner()}
	}
	s := r.plain()
	r.want(";")
	return s
}

// asked reads an expression between ( and ).
func (r *reader) asked() api.Expr {
	r.want("(")
	e := r.expr()
	r.want(")")
	return e
}

// plain reads a statement that ends with a semicolon, up to that.
func (r *reader) plain() api.Stmt {
	switch {
	case r.Skip("delete"):
		return api.Stmt{Kind: api.SDelete, Y: r.name()}
	case r.Skip("return"):
		s := api.Stmt{Kind: api.SReturn}
		if !token.Is(r.Token(), ";") {
			s.E = r.expr()
		}
		return s
	case r.pointed(), token.Is(r.Token(), "this"):
		s := r.member(api.SPut)
		if s.Kind == api.SPut {
			r.want("=")
			s.E = r.expr()
		}
		return s
	}
	x := r.name()
	r.want("=")
	s := r.value()
	s.X = x
	return s
}

// value reads what stands behind the = of a variable.
func (r *reader) value() api.Stmt {
	switch {
	case r.Skip("new"):
		return api.Stmt{Kind: api.SNew, Type: r.object(false)}
	case r.Skip("cast"):
		return api.Stmt{Kind: api.SCast, Type: r.object(true), E: r.bare()}
	case r.Skip("move"):
		return api.Stmt{Kind: api.SMove, Y: r.name()}
	case r.pointed():
		return r.member(api.SGet)
	}
	return api.Stmt{Kind: api.SSet, E: r.expr()}
}

// pointed tells whether a name, or this, is next, and a point behind it.
func (r *reader) pointed() bool {
	t := r.Token()
	return (t.Kind == api.TName || token.Is(t, "this")) && token.Is(r.Behind(1), ".")
}

// member reads what belongs to a name, or to this: a method's call, or a field, of which a statement is of this kind.
func (r *reader) member(field int) api.Stmt {
	s := api.Stmt{Kind: field, Y: "this"}
	if !r.Skip("this") {
		s.Y = r.name()
	}
	r.want(".")
	s.Name = r.name()
	if r.Skip("(") {
		s.Kind, s.Args = api.SCall, r.args()
	}
	return s
}

// args reads the arguments of a call behind its (, and the ).
func (r *reader) args() []api.Expr {
	if r.Skip(")") {
		return nil
	}
	var l []api.Expr
	for more := true; more; more = r.Skip(",") {
		if len(l) == api.MaxParams {
			fail(api.ErrLarge, r.Token())
		}
		l = append(l, r.expr())
	}
	r.want(")")
	return l
}

// bare reads an expression that may be cast: it is one token, and no ( may stand around it.
func (r *reader) bare() api.Expr {
	t := r.Take()
	// What is no expression by itself has no kind that may be cast.
	e, _, _ := expr.Parse([]api.Token{t}, 0)
	if !mayCast(e.Kind) {
		fail(api.ErrToken, t)
	}
	return e
}

package sample

import (
	"strings"

	"demesne/api"
)

// maker makes parts of a program that may be, whatever is chosen: choose tells a number from 0 on, and below the one that it is asked.
type maker struct {
	choose func(below int) int
	// params is how many owner parameters the class has in which all stands, left how many statements there may still be.
	params, left int
}

// Right is a program that may be, with all kinds of types, statements and expressions, in which no class has two parameters of one name. Its At are whatever they may be.
func Right(choose func(below int) int) []api.Class {
	var p []api.Class
	m := &maker{choose: choose, left: api.MaxStmts}
	for range choose(5) {
		m.params = choose(api.MaxOwners + 1)
		p = append(p, m.class())
	}
	return p
}

func (m *maker) name() string {
	l := []string{"a", "b", "d", "x", "A", "List", "class1", "This", "ints", strings.Repeat("q", api.MaxName)}
	return l[m.choose(len(l))]
}

func (m *maker) class() api.Class {
	c := api.Class{Name: m.name(), Params: []string{"d", "A", "owner"}[:m.params:m.params], At: m.choose(9)}
	if m.choose(2) == 0 {
		c.Super = m.name()
		for range m.choose(api.MaxOwners + 1) {
			above := append([]api.Owner{Peer, World}, m.owners()...)
			c.Above = append(c.Above, above[m.choose(len(above))])
		}
	}
	c.Fields = m.vars(4)
	for range m.choose(4) {
		c.Methods = append(c.Methods, m.method())
	}
	return c
}

// owners are the class's owner parameters.
func (m *maker) owners() []api.Owner {
	var l []api.Owner
	for n := range m.params {
		l = append(l, Param(n+1))
	}
	return l
}

func (m *maker) object() api.Type {
	l := append([]api.Owner{Rep, Peer, World, Any}, m.owners()...)
	var behind []api.Owner
	for range m.choose(api.MaxOwners + 1) {
		behind = append(behind, l[m.choose(len(l))])
	}
	l = append(l, Unique, Hole, Hole)
	return Object(l[m.choose(len(l))], m.name(), behind...)
}

func (m *maker) vars(below int) []api.Var {
	var l []api.Var
	for range m.choose(below) {
		v := api.Var{Name: m.name(), Type: api.Type{Kind: api.KInt}, At: m.choose(9)}
		if m.choose(4) > 0 {
			v.Type = m.object()
		}
		l = append(l, v)
	}
	return l
}

func (m *maker) method() api.Method {
	r := api.Method{Name: m.name(), Pure: m.choose(2) == 0, At: m.choose(9)}
	switch m.choose(4) {
	case 0:
	case 1:
		r.Ret.Kind = api.KInt
	default:
		r.Ret = m.object()
	}
	r.Params, r.Locals, r.Body = m.vars(api.MaxParams+1), m.vars(5), m.stmts(1+m.choose(5))
	return r
}

func (m *maker) stmts(deep int) []api.Stmt {
	var l []api.Stmt
	for range m.choose(4) {
		if m.left == 0 {
			break
		}
		m.left--
		l = append(l, m.stmt(deep))
	}
	return l
}

// whom is what a field, or a method, is asked of.
func (m *maker) whom() string {
	if m.choose(3) == 0 {
		return "this"
	}
	return m.name()
}

func (m *maker) stmt(deep int) api.Stmt {
	kinds := []int{api.SSet, api.SGet, api.SPut, api.SCall, api.SNew, api.SCast, api.SMove, api.SDelete, api.SReturn, api.SIf, api.SWhile}
	if deep <= 1 {
		// What others may stand in is left out.
		kinds = kinds[:9]
	}
	s := api.Stmt{Kind: kinds[m.choose(len(kinds))], At: m.choose(9)}
	switch s.Kind {
	case api.SSet:
		s.X, s.E = m.name(), m.expr(5)
	case api.SGet:
		s.X, s.Y, s.Name = m.name(), m.whom(), m.name()
	case api.SPut:
		s.Y, s.Name, s.E = m.whom(), m.name(), m.expr(3)
	case api.SCall:
		s.X, s.Y, s.Name, s.Args = []string{"", m.name()}[m.choose(2)], m.whom(), m.name(), m.exprs(m.choose(api.MaxParams+1), 3)
	case api.SNew:
		s.X, s.Type = m.name(), m.object()
	case api.SCast:
		s.X, s.Type, s.E = m.name(), m.object(), m.bare(3)
	case api.SMove:
		s.X, s.Y = m.name(), m.name()
	case api.SDelete:
		s.Y = m.name()
	case api.SReturn:
		if m.choose(3) > 0 {
			s.E = m.expr(4)
		}
	case api.SIf:
		s.E, s.Body, s.Else = m.expr(3), m.stmts(deep-1), m.stmts(deep-1)
	case api.SWhile:
		s.E, s.Body = m.expr(3), m.stmts(deep-1)
	}
	return s
}

// bare is this, a variable, or null, of which the first so many are chosen.
func (m *maker) bare(most int) api.Expr {
	return []api.Expr{{Kind: api.EThis}, {Kind: api.EVar, Name: m.name()}, {Kind: api.ENull}}[m.choose(most)]
}

func (m *maker) expr(deep int) api.Expr {
	kinds := []int{api.EThis, api.EInput, api.EInt, api.ENil, api.ESame, api.EAdd, api.ESub, api.EMul, api.ELess, api.EEqual, api.EAnd, api.ENot}
	if deep <= 1 {
		kinds = kinds[:3]
	}
	e := api.Expr{Kind: kinds[m.choose(len(kinds))]}
	switch e.Kind {
	case api.EThis:
		return m.bare(3)
	case api.EInput:
	case api.EInt:
		e.Num = []int{0, 1, 907, 999999999}[m.choose(4)]
	case api.ENil:
		e.Kids = []api.Expr{m.bare(2)}
	case api.ESame:
		e.Kids = []api.Expr{m.bare(3), m.bare(3)}
	case api.ENot:
		e.Kids = m.exprs(1, deep-1)
	default:
		e.Kids = m.exprs(2, deep-1)
	}
	return e
}

func (m *maker) exprs(n, deep int) []api.Expr {
	var l []api.Expr
	for range n {
		l = append(l, m.expr(deep))
	}
	return l
}

package sample

import (
	"math"
	"strings"

	"demesne/api"
)

// Parts are where the numbers, texts and bools of a program stand.
type Parts struct {
	Ints  []*int
	Texts []*string
	Bools []*bool
}

// PartsOf tells where all numbers, texts and bools of a program stand.
func PartsOf(p []api.Class) Parts {
	var l Parts
	for i := range p {
		l.class(&p[i])
	}
	return l
}

func (l *Parts) class(c *api.Class) {
	l.Texts = append(l.Texts, &c.Name, &c.Super)
	l.Ints = append(l.Ints, &c.At)
	for i := range c.Params {
		l.Texts = append(l.Texts, &c.Params[i])
	}
	for i := range c.Above {
		l.owner(&c.Above[i])
	}
	l.vars(c.Fields)
	for i := range c.Methods {
		l.method(&c.Methods[i])
	}
}

func (l *Parts) owner(o *api.Owner) {
	l.Ints = append(l.Ints, &o.Kind, &o.N)
}

func (l *Parts) kind(t *api.Type) {
	l.Ints = append(l.Ints, &t.Kind, &t.N)
	l.Texts = append(l.Texts, &t.Class)
	for i := range t.Own {
		l.owner(&t.Own[i])
	}
}

func (l *Parts) vars(vars []api.Var) {
	for i := range vars {
		l.Texts = append(l.Texts, &vars[i].Name)
		l.Ints = append(l.Ints, &vars[i].At)
		l.kind(&vars[i].Type)
	}
}

func (l *Parts) method(m *api.Method) {
	l.Texts = append(l.Texts, &m.Name)
	l.Bools = append(l.Bools, &m.Pure)
	l.Ints = append(l.Ints, &m.At)
	l.kind(&m.Ret)
	l.vars(m.Params)
	l.vars(m.Locals)
	l.stmts(m.Body)
}

func (l *Parts) stmts(stmts []api.Stmt) {
	for i := range stmts {
		s := &stmts[i]
		l.Texts = append(l.Texts, &s.X, &s.Y, &s.Name)
		l.Ints = append(l.Ints, &s.Kind, &s.At)
		l.kind(&s.Type)
		l.expr(&s.E)
		l.exprs(s.Args)
		l.stmts(s.Body)
		l.stmts(s.Else)
	}
}

func (l *Parts) expr(e *api.Expr) {
	l.Ints = append(l.Ints, &e.Kind, &e.Num)
	l.Texts = append(l.Texts, &e.Name)
	l.exprs(e.Kids)
}

func (l *Parts) exprs(exprs []api.Expr) {
	for i := range exprs {
		l.expr(&exprs[i])
	}
}

// OddInts tells numbers that a number of a program is tried with.
func OddInts() []int {
	return []int{math.MinInt, -1, 0, 1, 2, 3, 4, 5, 6, 7, 8, 9, 10, 11, 12, 13, 14, 15, 999999999, math.MaxInt}
}

// OddTexts tells texts that a text of a program is tried with: names, and others.
func OddTexts() []string {
	return []string{"", "a", "b", "A", "x", "this", "int", "class", "a1", "1a", "a_", "a b", "A<b>", ";", "//", "\n", "\x00", "é", strings.Repeat("q", 20), strings.Repeat("q", 21)}
}

// Odd is a program that nobody need be able to read, in which statements and Kids are nested at most so deep: choose tells a number from 0 on, and below the one that it is asked.
func Odd(choose func(below int) int, deep int) []api.Class {
	p := make([]api.Class, choose(4))
	for i := range p {
		c := &p[i]
		c.Params, c.Above, c.Fields = make([]string, choose(5)), make([]api.Owner, choose(5)), make([]api.Var, choose(4))
		c.Methods = make([]api.Method, choose(4))
		for k := range c.Methods {
			m := &c.Methods[k]
			m.Params, m.Locals, m.Body = make([]api.Var, choose(4)), make([]api.Var, choose(4)), oddStmts(choose, deep)
		}
	}
	l, ints, texts := PartsOf(p), OddInts(), OddTexts()
	for _, n := range l.Ints {
		*n = ints[choose(len(ints))]
	}
	for _, s := range l.Texts {
		*s = texts[choose(len(texts))]
	}
	for _, b := range l.Bools {
		*b = choose(2) == 0
	}
	return p
}

// oddStmts are statements that have Kids, Args, Body and Else whatever they are.
func oddStmts(choose func(below int) int, deep int) []api.Stmt {
	if deep <= 0 {
		return nil
	}
	l := make([]api.Stmt, choose(4))
	for i := range l {
		l[i] = api.Stmt{E: api.Expr{Kids: oddExprs(choose, deep-1)}, Args: oddExprs(choose, deep-1), Body: oddStmts(choose, deep-1), Else: oddStmts(choose, deep-1)}
	}
	return l
}

func oddExprs(choose func(below int) int, deep int) []api.Expr {
	if deep <= 0 {
		return nil
	}
	l := make([]api.Expr, choose(3))
	for i := range l {
		l[i].Kids = oddExprs(choose, deep-1)
	}
	return l
}

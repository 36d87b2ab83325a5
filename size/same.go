package size

import (
	"slices"

	"demesne/api"
	"demesne/stmt"
)

// Same tells whether two programs are the same, wherever all stands.
func Same(a, b []api.Class) bool {
	return slices.EqualFunc(a, b, sameClass)
}

// sameClass tells whether two classes are the same, wherever all stands.
func sameClass(a, b api.Class) bool {
	return a.Name == b.Name && slices.Equal(a.Params, b.Params) && a.Super == b.Super && slices.Equal(a.Above, b.Above) &&
		slices.EqualFunc(a.Fields, b.Fields, sameVar) && slices.EqualFunc(a.Methods, b.Methods, sameMethod)
}

// sameVar tells whether two variables are the same, wherever they stand.
func sameVar(a, b api.Var) bool {
	return bareVar(a) == bareVar(b)
}

// sameMethod tells whether two methods are the same, wherever all stands.
func sameMethod(a, b api.Method) bool {
	return a.Name == b.Name && a.Pure == b.Pure && a.Ret == b.Ret && slices.EqualFunc(a.Params, b.Params, sameVar) &&
		slices.EqualFunc(a.Locals, b.Locals, sameVar) && slices.EqualFunc(a.Body, b.Body, stmt.Same)
}

// Bare tells a program that stands nowhere: 0 is each At.
func Bare(p []api.Class) []api.Class {
	return each(p, bareClass)
}

// each tells what becomes of each of a list.
func each[T any](l []T, become func(T) T) []T {
	var m []T
	for _, x := range l {
		m = append(m, become(x))
	}
	return m
}

// bareClass tells a class that stands nowhere.
func bareClass(c api.Class) api.Class {
	c.At, c.Params, c.Above = 0, slices.Clone(c.Params), slices.Clone(c.Above)
	c.Fields, c.Methods = each(c.Fields, bareVar), each(c.Methods, bareMethod)
	return c
}

// bareVar tells a variable that stands nowhere.
func bareVar(v api.Var) api.Var {
	v.At = 0
	return v
}

// bareMethod tells a method that stands nowhere.
func bareMethod(m api.Method) api.Method {
	m.At, m.Params, m.Locals, m.Body = 0, each(m.Params, bareVar), each(m.Locals, bareVar), each(m.Body, bareStmt)
	return m
}

// bareStmt tells a statement that stands nowhere.
func bareStmt(s api.Stmt) api.Stmt {
	s.At, s.E, s.Args = 0, copyExpr(s.E), each(s.Args, copyExpr)
	s.Body, s.Else = each(s.Body, bareStmt), each(s.Else, bareStmt)
	return s
}

// copyExpr tells an expression with Kids of its own.
func copyExpr(e api.Expr) api.Expr {
	e.Kids = each(e.Kids, copyExpr)
	return e
}

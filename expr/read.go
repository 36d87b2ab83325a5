package expr

import (
	"demesne/api"
	"demesne/cursor"
	"demesne/token"
	"demesne/word"
)

// reader reads an expression from tokens.
type reader struct {
	cursor.Cursor
	// around is how many ( and ! stand around what is read next.
	around int
}

// part is an expression that was read, and how deep it is.
type part struct {
	e    api.Expr
	deep int
}

// Parse tells the longest expression from a token on, and the place of the token behind it, or the first fault.
func Parse(l []api.Token, at int) (api.Expr, int, api.Fault) {
	r := reader{Cursor: cursor.New(l, at)}
	p, fault := r.bound(bindAnd)
	if fault.Err != api.OK {
		return api.Expr{}, 0, fault
	}
	return p.e, r.Place(), api.Fault{}
}

// bound reads the longest expression that is bound at least so tightly.
func (r *reader) bound(bind int) (part, api.Fault) {
	if bind >= bindNot {
		return r.tight()
	}
	left, fault := r.bound(bind + 1)
	for fault.Err == api.OK {
		s, is := signAt(r.Token(), bind)
		if !is {
			break
		}
		left, fault = r.join(left, s)
		if !s.chain {
			break
		}
	}
	return left, fault
}

// signAt tells which of the signs that bind so tightly a token is, and whether it is one.
func signAt(t api.Token, bind int) (sign, bool) {
	for _, s := range signs {
		if s.bind == bind && token.Is(t, s.text) {
			return s, true
		}
	}
	return sign{}, false
}

// join reads a sign and the Kid behind it, and joins it to the one ahead.
func (r *reader) join(left part, s sign) (part, api.Fault) {
	t := r.Take()
	right, fault := r.bound(s.bind + 1)
	if fault.Err != api.OK {
		return part{}, fault
	}
	return over(t, s.kind, left, right)
}

// over puts an expression over Kids, unless the token that asks for it makes it too deep.
func over(t api.Token, kind int, kids ...part) (part, api.Fault) {
	p := part{e: api.Expr{Kind: kind}}
	for _, k := range kids {
		p.e.Kids = append(p.e.Kids, k.e)
		p.deep = max(p.deep, k.deep+1)
	}
	if p.deep > api.MaxNest {
		return part{}, cursor.Wrong(api.ErrDeep, t)
	}
	return p, api.Fault{}
}

// tight reads an expression that no sign behind it takes apart.
func (r *reader) tight() (part, api.Fault) {
	t := r.Token()
	switch {
	case token.Is(t, "!"):
		return r.not()
	case token.Is(t, "("):
		return r.bracket()
	case token.Is(t, "nil"):
		return r.asked(api.ENil)
	case token.Is(t, "same"):
		return r.asked(api.ESame)
	}
	return r.plain()
}

// not reads a ! and its Kid.
func (r *reader) not() (part, api.Fault) {
	t := r.Token()
	kid, fault := r.within(bindNot)
	if fault.Err != api.OK {
		return part{}, fault
	}
	return over(t, api.ENot, kid)
}

// bracket reads an expression between ( and ).
func (r *reader) bracket() (part, api.Fault) {
	p, fault := r.within(bindAnd)
	if fault.Err != api.OK {
		return part{}, fault
	}
	if fault = r.Want(")"); fault.Err != api.OK {
		return part{}, fault
	}
	return p, api.Fault{}
}

// within reads a ( or a !, and the expression that it stands around.
func (r *reader) within(bind int) (part, api.Fault) {
	t := r.Take()
	if r.around == api.MaxNest {
		return part{}, cursor.Wrong(api.ErrDeep, t)
	}
	r.around++
	p, fault := r.bound(bind)
	r.around--
	return p, fault
}

// asked reads nil or same, and its Kids between ( and ).
func (r *reader) asked(kind int) (part, api.Fault) {
	t := r.Take()
	var l []part
	n, _ := kidsOf(kind)
	for ahead := "("; len(l) < n; ahead = "," {
		if fault := r.Want(ahead); fault.Err != api.OK {
			return part{}, fault
		}
		k, fault := r.bare(kind)
		if fault.Err != api.OK {
			return part{}, fault
		}
		l = append(l, k)
	}
	if fault := r.Want(")"); fault.Err != api.OK {
		return part{}, fault
	}
	return over(t, kind, l...)
}

// bare reads a Kid of nil or of same, which no ( may stand around.
func (r *reader) bare(kind int) (part, api.Fault) {
	t := r.Token()
	k, fault := r.plain()
	if fault.Err == api.OK && !mayHold(kind, k.e.Kind) {
		return part{}, cursor.Wrong(api.ErrToken, t)
	}
	return k, fault
}

// plain reads an expression that is one token.
func (r *reader) plain() (part, api.Fault) {
	t := r.Take()
	e, is := plainOf(t)
	if !is {
		return part{}, cursor.Wrong(api.ErrToken, t)
	}
	return part{e: e, deep: 1}, api.Fault{}
}

// plainOf tells the expression that a token is by itself, and whether it is one.
func plainOf(t api.Token) (api.Expr, bool) {
	switch t.Kind {
	case api.TName:
		return api.Expr{Kind: api.EVar, Name: t.Text}, true
	case api.TNumber:
		n, is := word.Number(t.Text)
		return api.Expr{Kind: api.EInt, Num: n}, is
	}
	for _, w := range plainWords {
		if token.Is(t, w.text) {
			return api.Expr{Kind: w.kind}, true
		}
	}
	return api.Expr{}, false
}

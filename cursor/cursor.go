// Package cursor goes through tokens one by one, for the layers that read them.
package cursor

import (
	"demesne/api"
	"demesne/token"
)

// Cursor stands ahead of a token of a list; where the list has none, it stands ahead of an end.
type Cursor struct {
	l  []api.Token
	at int
}

// New tells a cursor ahead of the token at a place.
func New(l []api.Token, at int) Cursor {
	return Cursor{l: l, at: at}
}

// Place tells the place of the next token.
func (c *Cursor) Place() int {
	return c.at
}

// Token tells the next token.
func (c *Cursor) Token() api.Token {
	return c.Behind(0)
}

// Behind tells the token that stands so many places behind the next one.
func (c *Cursor) Behind(n int) api.Token {
	if at := c.at + n; 0 <= at && at < len(c.l) {
		return c.l[at]
	}
	end := api.Token{Kind: api.TEnd}
	if size := len(c.l); size > 0 {
		end.At = c.l[size-1].At
	}
	return end
}

// Take tells the next token, and goes on behind it.
func (c *Cursor) Take() api.Token {
	t := c.Token()
	c.at++
	return t
}

// Skip goes on behind the next token, if it is such a word of the language, or sign, and tells whether it is.
func (c *Cursor) Skip(s string) bool {
	if !token.Is(c.Token(), s) {
		return false
	}
	c.at++
	return true
}

// Want goes on behind the next token, which has to be such a word of the language, or sign.
func (c *Cursor) Want(s string) api.Fault {
	t := c.Token()
	if !c.Skip(s) {
		return Wrong(api.ErrToken, t)
	}
	return api.Fault{}
}

// Name tells the name that the next token has to be, and goes on behind it.
func (c *Cursor) Name() (string, api.Fault) {
	t := c.Token()
	if t.Kind != api.TName {
		return "", Wrong(api.ErrToken, t)
	}
	c.at++
	return t.Text, api.Fault{}
}

// Read tells what another layer reads from the next token on, or its fault, and goes on behind what it read.
func Read[T any](c *Cursor, parse func(l []api.Token, at int) (T, int, api.Fault)) (T, api.Fault) {
	what, next, fault := parse(c.l, c.at)
	if fault.Err == api.OK {
		c.at = next
	}
	return what, fault
}

// Wrong tells the fault of a token.
func Wrong(err api.Errno, t api.Token) api.Fault {
	return api.Fault{Err: err, At: t.At}
}

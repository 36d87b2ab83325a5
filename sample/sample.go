// Package sample has what the tests of several layers are made of.
package sample

import (
	"strings"

	"demesne/api"
)

// Words are the words of the language, and Signs its signs, a blank between each two.
const (
	Words = "class extends rep peer world any unique pure void int if else while return new move delete this null input nil same cast"
	Signs = "{ } ( ) < > , ; . = + - * ! == &&"
)

// Owners as they are written, but for parameters.
var (
	Rep    = api.Owner{Kind: api.ORep}
	Peer   = api.Owner{Kind: api.OPeer}
	World  = api.Owner{Kind: api.OWorld}
	Any    = api.Owner{Kind: api.OAny}
	Unique = api.Owner{Kind: api.OUnique}
	Hole   = api.Owner{Kind: api.OHole}
	Hidden = api.Owner{Kind: api.OHidden}
)

// Param is a class's owner parameter, from 1 on.
func Param(n int) api.Owner {
	return api.Owner{Kind: api.OParam, N: n}
}

// Object is the type of an object with an owner, of a class, with owners behind it.
func Object(first api.Owner, class string, behind ...api.Owner) api.Type {
	t := api.Type{Kind: api.KObject, Class: class, N: len(behind), Own: [4]api.Owner{first}}
	copy(t.Own[1:], behind)
	return t
}

// Longer hands on a text, and all that go on, with at most so many more of these tokens, behind a text of which it is told that more might change an answer.
func Longer(text, tokens string, most int, more func(text string) bool) {
	texts := []string{text}
	for range most + 1 {
		var longer []string
		for _, s := range texts {
			if !more(s) {
				continue
			}
			for _, w := range strings.Fields(tokens) {
				longer = append(longer, strings.TrimSpace(s+" "+w))
			}
		}
		texts = longer
	}
}

package size_test

import (
	"cmp"
	"encoding/json"
	"math"
	"math/rand/v2"
	"reflect"
	"slices"
	"strconv"
	"strings"
	"testing"

	"demesne/api"
	"demesne/kind"
	"demesne/parse"
	"demesne/size"
	"demesne/stmt"
	"demesne/word"
)

// walk tells all values in a value, each ahead of those in it, with the way to each.
func walk(v reflect.Value, way string, tell func(way string, v reflect.Value)) {
	tell(way, v)
	switch v.Kind() {
	case reflect.Struct:
		for i := range v.NumField() {
			walk(v.Field(i), way+"."+v.Type().Field(i).Name, tell)
		}
	case reflect.Slice, reflect.Array:
		for i := range v.Len() {
			walk(v.Index(i), way+"["+strconv.Itoa(i)+"]", tell)
		}
	}
}

// values tells all values in a program.
func values(p *[]api.Class, tell func(way string, v reflect.Value)) {
	walk(reflect.ValueOf(p).Elem(), "", tell)
}

// told is all of a program; a list that is empty is the same as none.
func told(p []api.Class) string {
	b, _ := json.Marshal(p)
	return strings.ReplaceAll(string(b), "null", "[]")
}

// placeless is all of a program but where it stands.
func placeless(p []api.Class) string {
	l := strings.Split(told(p), `"At":`)
	for i := range l[1:] {
		l[i+1] = "0" + strings.TrimLeft(l[i+1], "-0123456789")
	}
	return strings.Join(l, `"At":`)
}

// counted is a model of how great a program is.
func counted(p []api.Class) size.Counts {
	var n size.Counts
	values(&p, func(way string, v reflect.Value) {
		switch x := v.Interface().(type) {
		case api.Class:
			n.Classes++
		case api.Method:
			n.Methods++
		case api.Var:
			if strings.Contains(way, ".Fields") {
				n.Fields++
			} else {
				n.Vars++
			}
		case api.Stmt:
			n.Stmts++
			n.Deep = max(n.Deep, strings.Count(way, ".Body")+strings.Count(way, ".Else"))
		case api.Type:
			if x.Kind == api.KObject && x.Own[0].Kind == api.OHole {
				n.Holes++
			}
		}
	})
	return n
}

// written is a text that is read as a program, if there is one, whose owner parameters are unlike.
func written(p []api.Class) string {
	var b strings.Builder
	for _, c := range p {
		b.WriteString("class " + c.Name)
		if len(c.Params) > 0 {
			b.WriteString("<" + strings.Join(c.Params, ", ") + ">")
		}
		if c.Super != "" {
			// The owners behind the class above are written as those of a type without an owner are.
			t := api.Type{Kind: api.KObject, Class: c.Super, N: len(c.Above), Own: [4]api.Owner{{Kind: api.OHole}}}
			copy(t.Own[1:], c.Above)
			b.WriteString(" extends " + kind.Text(t, c.Params))
		}
		b.WriteString(" {\n")
		for _, v := range c.Fields {
			b.WriteString(kind.Text(v.Type, c.Params) + " " + v.Name + ";\n")
		}
		for _, m := range c.Methods {
			b.WriteString(writtenMethod(m, c.Params))
		}
		b.WriteString("}\n")
	}
	return b.String()
}

func writtenMethod(m api.Method, params []string) string {
	var l []string
	for _, v := range m.Params {
		l = append(l, kind.Text(v.Type, params)+" "+v.Name)
	}
	text := kind.Text(m.Ret, params) + " " + m.Name + "(" + strings.Join(l, ", ") + ") {\n"
	if m.Pure {
		text = "pure " + text
	}
	for _, v := range m.Locals {
		text += kind.Text(v.Type, params) + " " + v.Name + ";\n"
	}
	for _, s := range m.Body {
		text += stmt.Text(s, params, 1)
	}
	return text + "}\n"
}

// readable is a model of which programs may be: it is asked whether a text is read as it.
func readable(p []api.Class) bool {
	p = slices.Clone(p)
	for i, c := range p {
		// An owner is read as the first parameter of its name: that names are alike is not asked, so they are told apart.
		p[i].Params = slices.Clone(c.Params)
		for n, s := range c.Params {
			if slices.Contains(c.Params[:n], s) && word.Name(s) {
				p[i].Params[n] = "unlike" + word.Digits(n)
			}
		}
	}
	q, f := parse.Of(written(p))
	return f == (api.Fault{}) && placeless(p) == placeless(q)
}

// ints and texts are what a number and a text of a program are tried with.
var (
	ints  = []int{math.MinInt, -1, 0, 1, 2, 3, 4, 5, 6, 7, 8, 9, 11, 12, math.MaxInt}
	texts = []string{"", "a", "b", "A", "x", "this", "int", "class", "a1", "1a", "a_", "a b", "A<b>", "\x00", "é", strings.Repeat("q", 20), strings.Repeat("q", 21)}
)

// change tells a number, a text, or a bool another value, all that it is tried with one by one, and at last its own one again.
func change(v reflect.Value, ask func()) {
	old := reflect.New(v.Type()).Elem()
	old.Set(v)
	switch v.Kind() {
	case reflect.Int:
		for _, n := range ints {
			v.SetInt(int64(n))
			ask()
		}
	case reflect.String:
		for _, s := range texts {
			v.SetString(s)
			ask()
		}
	case reflect.Bool:
		v.SetBool(!v.Bool())
		ask()
	case reflect.Slice:
		for _, l := range otherLists(v) {
			v.Set(l)
			ask()
		}
	}
	v.Set(old)
}

// otherLists are lists that are made of one: without one, with one twice, with one more that is nothing, turned round.
func otherLists(v reflect.Value) []reflect.Value {
	none := reflect.Zero(v.Type())
	turned := none
	l := []reflect.Value{none, reflect.Append(copied(v), reflect.Zero(v.Type().Elem()))}
	for i := range v.Len() {
		l = append(l, reflect.AppendSlice(copied(v.Slice(0, i)), v.Slice(i+1, v.Len())))
		l = append(l, reflect.AppendSlice(copied(v.Slice(0, i+1)), v.Slice(i, v.Len())))
		turned = reflect.AppendSlice(copied(v.Slice(i, i+1)), turned)
	}
	return append(l, turned)
}

func copied(v reflect.Value) reflect.Value {
	return reflect.AppendSlice(reflect.Zero(v.Type()), v)
}

// scribble is a value of a type at random, in which lists are nested at most so deep.
func scribble(r *rand.Rand, v reflect.Value, deep int) {
	switch v.Kind() {
	case reflect.Int:
		v.SetInt(int64(ints[r.IntN(len(ints))]))
	case reflect.String:
		v.SetString(texts[r.IntN(len(texts))])
	case reflect.Bool:
		v.SetBool(r.IntN(2) == 0)
	case reflect.Slice:
		if n := r.IntN(4); n > 0 && deep > 0 {
			v.Set(reflect.MakeSlice(v.Type(), n, n))
		}
		fallthrough
	case reflect.Array:
		for i := range v.Len() {
			scribble(r, v.Index(i), deep-1)
		}
	case reflect.Struct:
		for i := range v.NumField() {
			scribble(r, v.Field(i), deep)
		}
	}
}

// scribbled are programs that nobody could have read.
func scribbled(n int) [][]api.Class {
	r := rand.New(rand.NewPCG(10, 7))
	l := make([][]api.Class, n)
	for i := range l {
		scribble(r, reflect.ValueOf(&l[i]).Elem(), 2+i%4)
	}
	return l
}

// span is where a list lies, with the room behind it.
type span struct {
	first, behind uintptr
	way           string
	given         bool
}

// spans are where the lists of a program lie.
func spans(p []api.Class, given bool) []span {
	var l []span
	values(&p, func(way string, v reflect.Value) {
		if v.Kind() == reflect.Slice && v.Cap() > 0 {
			l = append(l, span{v.Pointer(), v.Pointer() + uintptr(v.Cap())*v.Type().Elem().Size(), way, given})
		}
	})
	return l
}

// wantApart asks that no list of some answers lies where another one does, or one of what was handed in.
func wantApart(t *testing.T, given []api.Class, answers ...[]api.Class) {
	t.Helper()
	l := spans(given, true)
	for _, p := range answers {
		l = append(l, spans(p, false)...)
	}
	slices.SortFunc(l, func(a, b span) int { return cmp.Compare(a.first, b.first) })
	// What was handed in may share memory with itself.
	var last, lastAnswer span
	for _, s := range l {
		if s.first < lastAnswer.behind || !s.given && s.first < last.behind {
			t.Fatalf("%+v shares memory with %+v, or %+v", s, last, lastAnswer)
		}
		if s.behind > last.behind {
			last = s
		}
		if !s.given {
			lastAnswer = s
		}
	}
}

package annot_test

import (
	"slices"
	"strings"
	"testing"

	"demesne/annot"
	"demesne/api"
	"demesne/sample"
)

// form is how tokens stand one behind the other: O is an owner, C a class, and each other byte itself, or its word's first one.
type form string

// tooMany are owners, the last of which is one too many.
const tooMany = "O,O,O,O"

// ownersForms are all forms of owners, those with one too many among them.
var ownersForms = []form{"<O>", "<O,O>", "<O,O,O>", "<O,O,O,O>"}

// typeForms are all forms of types.
func typeForms() []form {
	l := []form{"v", "i"}
	for _, ahead := range []form{"", "u", "O"} {
		l = append(l, ahead+"C")
		for _, behind := range ownersForms {
			l = append(l, ahead+"C"+behind)
		}
	}
	return l
}

// varForms are all forms of variables; a C at the end is the name.
func varForms() []form {
	var l []form
	for _, f := range typeForms() {
		if f != "v" {
			l = append(l, f+"C")
		}
	}
	return l
}

// fits tells whether a token may stand where a form has a byte.
func fits(t api.Token, b byte) bool {
	_, is := owners[t.Text]
	switch b {
	case 'O':
		return is
	case 'C':
		return isName(t.Text)
	case 'v', 'i', 'u':
		return t.Text == map[byte]string{'v': "void", 'i': "int", 'u': "unique"}[b]
	}
	return t.Text == string(b)
}

// model tells in which of the forms all tokens stand that are read, or what is wrong if they stand in none:
// it tries one form behind the other, and keeps those that go on longest.
func model(l []api.Token, forms []form) (form, api.Fault) {
	longest, whole, err := -1, form(""), api.OK
	for _, f := range forms {
		n := 0
		for n < len(f) && fits(l[n], f[n]) {
			n++
		}
		if from := strings.Index(string(f), tooMany); from >= 0 && n >= from+len(tooMany) {
			return "", api.Fault{Err: api.ErrArity, At: l[from+len(tooMany)-1].At}
		}
		if n > longest {
			longest, whole, err = n, "", api.ErrToken
		}
		switch {
		case n < longest:
		case n == len(f):
			whole = f
		case f[n] == 'O' && isName(l[n].Text):
			err = api.ErrOwner
		}
	}
	if whole != "" {
		return whole, api.Fault{}
	}
	return "", api.Fault{Err: err, At: l[longest].At}
}

// firstNames leaves of forms those in which a name that stands first is what it is here: an owner, or the class.
func firstNames(l []api.Token, forms []form, named bool) []form {
	if !isName(l[0].Text) {
		return forms
	}
	ahead := byte('C')
	if isName(l[1].Text) && (!named || strings.Contains(namesBehind, " "+l[2].Text+" ")) {
		ahead = 'O'
	}
	return slices.DeleteFunc(slices.Clone(forms), func(f form) bool { return f[0] != ahead })
}

// typeOf tells the type that tokens in a form are.
func typeOf(l []api.Token, f form) api.Type {
	switch f[0] {
	case 'v':
		return api.Type{}
	case 'i':
		return api.Type{Kind: api.KInt}
	}
	o := hole
	if f[0] != 'C' {
		o = unique
		if f[0] == 'O' {
			o = owners[l[0].Text]
		}
		l, f = l[1:], f[1:]
	}
	return sample.Object(o, l[0].Text, ownersOf(l, f)...)
}

// ownersOf tells the owners among tokens in a form.
func ownersOf(l []api.Token, f form) []api.Owner {
	var own []api.Owner
	for i := range f {
		if f[i] == 'O' {
			own = append(own, owners[l[i].Text])
		}
	}
	return own
}

// padded are tokens with ends behind them, as many as any look ahead goes beyond the last one.
func padded(l []api.Token) []api.Token {
	return append(slices.Clone(l), slices.Repeat(l[len(l)-1:], 3)...)
}

// askModel asks all calls of a text, and tells whether more behind the text could change an answer.
func askModel(t *testing.T, text string) bool {
	t.Helper()
	l := tokensOf(t, text)
	more := false
	ask := func(forms []form, got any, n int, f api.Fault, none any, tell func(form) any) {
		t.Helper()
		whole, fault := model(padded(l), forms)
		want := none
		if whole != "" {
			want = tell(whole)
		}
		if got != want || n != len(whole) || f != fault {
			t.Fatalf("%q is read as %v, %d, %v, want %v, %d, %v", text, got, n, f, want, len(whole), fault)
		}
		more = more || fault.At == len(text) || len(whole) >= len(l)-2
	}
	own, n, f := annot.Owners(l, 0, params)
	ask(ownersForms, sample.Object(hole, "", own...), n, f, sample.Object(hole, ""), func(f form) any { return sample.Object(hole, "", ownersOf(l, f)...) })
	for _, named := range []bool{false, true} {
		x, n, f := annot.Parse(l, 0, params, named)
		ask(firstNames(padded(l), typeForms(), named), x, n, f, api.Type{}, func(f form) any { return typeOf(l, f) })
	}
	v, n, f := annot.Var(l, 0, params)
	ask(firstNames(padded(l), varForms(), true), v, n, f, api.Var{}, func(f form) any {
		last := len(f) - 1
		return api.Var{Name: l[last].Text, Type: typeOf(l, f[:last]), At: l[0].At}
	})
	return more
}

// wantModel asks that all texts of these tokens, up to where more of them change nothing any more, are read as the model reads them.
func wantModel(t *testing.T, tokens string, most int) {
	t.Helper()
	sample.Longer("", tokens, most, func(text string) bool {
		t.Helper()
		return askModel(t, text)
	})
}

func TestAllShortTextsAreReadAsTheModelReadsThem(t *testing.T) {
	wantModel(t, everyToken, 4)
	wantModel(t, "rep unique void int data Item < > , this null ;", 8)
	wantModel(t, "any key Item < > , 907", 13)
}

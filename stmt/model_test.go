package stmt_test

import (
	"slices"
	"strings"
	"testing"

	"demesne/annot"
	"demesne/api"
	"demesne/expr"
	"demesne/kind"
	"demesne/sample"
	"demesne/stmt"
	"demesne/token"
)

// reading is a model of how statements are read: what is still to come is a stack of symbols, and a table says what each stands for.
// It writes down what it reads, as it would be written, and where statements begin.
type reading struct {
	l     []api.Token
	at    int
	nest  int
	args  int
	stack []string
	texts []string
	ats   []int
	fault api.Fault
}

// symbols are what the symbols of the table stand for; those that it has not are tokens.
// A statement is S, more of them and a } are L, an expression E, one that is cast B, a type T, one that is cast C, a name N, a name or this W.
// What stands behind Y.Name is F, behind an = it is V, behind Y.Name there G; arguments are A, an else is O, what returns R.
var symbols = map[string]string{
	"S if":     "if ( E ) { + L - O",
	"S while":  "while ( E ) { + L -",
	"S delete": "delete N ;",
	"S return": "return R ;",
	"S this":   "this . N F ;",
	"S N .":    "N . N F ;",
	"S N":      "N = V ;",
	"F (":      "( A )",
	"F":        "= E",
	"V new":    "new T",
	"V cast":   "cast C B",
	"V move":   "move N",
	"V this .": "W . N G",
	"V N .":    "W . N G",
	"V":        "E",
	"G (":      "( A )",
	"G":        "",
	"R ;":      "",
	"R":        "E",
	"A )":      "",
	"A":        "a",
	"a":        "E M",
	"M ,":      ", a",
	"M":        "",
	"L }":      "}",
	"L":        "S L",
	"O else":   "else { + L -",
	"O":        "",
	"W this":   "this",
	"W":        "N",
}

// peek is the token so many places on, with its text, which is N of a name.
func (r *reading) peek(n int) (api.Token, string) {
	x := r.l[min(r.at+n, len(r.l)-1)]
	if x.Kind == api.TName {
		return x, "N"
	}
	return x, x.Text
}

// run reads what a symbol stands for, and tells whether nothing is wrong.
func (r *reading) run(symbol string) bool {
	for r.stack = strings.Fields(symbol); len(r.stack) > 0; {
		s := r.stack[0]
		r.stack = r.stack[1:]
		if !r.one(s) {
			return false
		}
	}
	return true
}

// one reads what stands at the top of the stack.
func (r *reading) one(s string) bool {
	x, text := r.peek(0)
	_, next := r.peek(1)
	switch s {
	case "+":
		r.nest++
	case "-":
		r.nest--
	case "E", "B":
		return r.expr(s == "B")
	case "T", "C":
		return r.kind(s == "C")
	case "S":
		if r.nest >= 20 {
			return r.wrong(api.ErrDeep)
		}
		r.ats = append(r.ats, x.At)
		return r.unfold(s, text, next)
	case "A", "F", "G", "V", "R", "L", "O", "W", "M":
		if s == "A" {
			r.args = 0
		}
		return r.unfold(s, text, next)
	case "a":
		if r.args++; r.args == 6 {
			return r.wrong(api.ErrLarge)
		}
		return r.unfold(s, text, next)
	default:
		if text != s {
			return r.wrong(api.ErrToken)
		}
		r.texts = append(r.texts, x.Text)
		r.at++
	}
	return true
}

// unfold lays on the stack what the table says of a symbol, of the next token, and of the one behind it.
func (r *reading) unfold(s, text, next string) bool {
	for _, row := range []string{s + " " + text + " " + next, s + " " + text, s} {
		if l, is := symbols[row]; is {
			r.stack = append(strings.Fields(l), r.stack...)
			return true
		}
	}
	return r.wrong(api.ErrToken)
}

// wrong ends all with a fault of the next token.
func (r *reading) wrong(err api.Errno) bool {
	x, _ := r.peek(0)
	r.fault = api.Fault{Err: err, At: x.At}
	return false
}

// add writes down a text that was read up to a token, unless there was a fault.
func (r *reading) add(text string, next int, f api.Fault) bool {
	if r.fault = f; f != (api.Fault{}) {
		return false
	}
	l, _ := token.Of(text)
	for _, x := range l[:len(l)-1] {
		r.texts = append(r.texts, x.Text)
	}
	r.at = next
	return true
}

// expr reads an expression, or one that is cast.
func (r *reading) expr(bare bool) bool {
	if x, text := r.peek(0); bare {
		if text != "N" && text != "this" && text != "null" {
			return r.wrong(api.ErrToken)
		}
		return r.add(x.Text, r.at+1, api.Fault{})
	}
	e, next, f := expr.Parse(r.l, r.at)
	return r.add(expr.Text(e), next, f)
}

// kind reads a type.
func (r *reading) kind(named bool) bool {
	x, next, f := annot.Parse(r.l, r.at, params, named)
	if f == (api.Fault{}) && x.Kind != api.KObject {
		return r.wrong(api.ErrToken)
	}
	return r.add(kind.Text(x, params), next, f)
}

// written are tokens' texts as they are written: without an else that has nothing in it.
func written(l []string) string {
	return strings.ReplaceAll(strings.Join(l, " "), " else { }", "")
}

// starts are the places at which statements begin, in order.
func starts(l []api.Stmt) []int {
	var ats []int
	for _, s := range l {
		ats = append(append(append(ats, s.At), starts(s.Body)...), starts(s.Else)...)
	}
	return ats
}

// textsOf are the tokens of statements, as they are written.
func textsOf(l []api.Stmt) []string {
	var texts []string
	for _, s := range l {
		all, _ := token.Of(stmt.Text(s, params, 0))
		for _, x := range all[:len(all)-1] {
			texts = append(texts, x.Text)
		}
	}
	return texts
}

// askModel asks that a text is read as the model reads it, and tells whether more behind the text could change an answer.
func askModel(t *testing.T, text string, nest int) bool {
	t.Helper()
	l := tokensOf(t, text)
	compare := func(what string, got []api.Stmt, n int, f api.Fault, r *reading, texts []string) bool {
		t.Helper()
		next := r.at
		if r.fault != (api.Fault{}) {
			next, texts, r.ats = 0, nil, nil
		}
		if f != r.fault || n != next || written(textsOf(got)) != written(texts) || !slices.Equal(starts(got), r.ats) {
			t.Fatalf("%s(%q, 0, %d) = %s, %d, %v, want %q, %d, %v", what, text, nest, told(got), n, f, texts, next, r.fault)
		}
		return f.At == len(text) || n >= len(l)-2
	}
	s, n, f := stmt.Parse(l, 0, params, nest)
	r := &reading{l: l, nest: max(nest, 0)}
	one := list(s)
	if !r.run("S") {
		one = nil
	}
	more := compare("Parse", one, n, f, r, r.texts)
	b, n, f := stmt.Block(l, 0, params, nest)
	r = &reading{l: l, nest: max(nest, 0)}
	var inner []string
	if r.run("{ L") {
		inner = r.texts[1 : len(r.texts)-1]
	}
	return compare("Block", b, n, f, r, inner) || more
}

// wantModel asks that all texts of these tokens, up to where more of them change nothing any more, are read as the model reads them.
func wantModel(t *testing.T, first, tokens string, most, nest int) {
	t.Helper()
	sample.Longer(first, tokens, most, func(text string) bool {
		t.Helper()
		return askModel(t, text, nest)
	})
}

func TestAllShortTextsAreReadAsTheModelReadsThem(t *testing.T) {
	wantModel(t, "", everyToken, 4, 0)
	wantModel(t, "", "data = . ( ) ; , new this { }", 9, 0)
	wantModel(t, "", "if while ( this ) { } else return ; delete x", 10, 0)
	wantModel(t, "x =", "cast move new data Item rep < > this ;", 8, 0)
	wantModel(t, "x = y . m", "( 1 , ) ;", 18, 0)
	wantModel(t, "y . m", "( this , ) = ;", 12, 0)
}

func TestAllShortTextsThatStandInOthers(t *testing.T) {
	for _, nest := range append([]int{17, 18, 19, 20, 21}, numbers...) {
		wantModel(t, "", "if while ( 1 ) { } else return ;", 7, nest)
	}
	for _, nest := range []int{18, 19, 20} {
		wantModel(t, "if (1) { while (1) {", "if { } else return ; (", 5, nest)
		wantModel(t, "{", everyToken, 2, nest)
	}
}

// texts are statements that may be read, of all kinds and with all that may stand in them.
var texts = []string{
	"x = a + 2 * ( b - 1 ) ;", "x = this ;", "x = y . f ;", "this . f = ! nil ( x ) ;", "x = y . m ( ) ;", "x = this . m ( 1 , same ( a , null ) ) ;", "y . m ( 1 , 2 , 3 , 4 , 5 ) ;",
	"x = new Item ;", "x = new data Map < data , any , key > ;", "x = cast data Item y ;", "x = cast Item < rep > this ;", "x = cast unique Item null ;", "x = move y ;", "delete y ;",
	"return ;", "return x ;", "if ( a ) { } ;", "if ( a < 1 ) { x = y ; } else { delete x ; return ; }", "if ( a ) { } else { }", "while ( a && b ) { x = 1 ; y . f = x ; } }",
	"{ x = 1 ; if ( a ) { this . m ( ) ; } }", "{ }",
}

func TestEachTokenAtEachPlace(t *testing.T) {
	for _, text := range texts {
		l := strings.Fields(text)
		for i := range l {
			askModel(t, strings.Join(slices.Delete(slices.Clone(l), i, i+1), " "), 0)
			askModel(t, strings.Join(l[:i], " "), 0)
			for _, w := range strings.Fields(everyToken) {
				askModel(t, strings.Join(slices.Insert(slices.Clone(l), i, w), " "), 0)
				l[i], w = w, l[i]
				askModel(t, strings.Join(l, " "), 0)
				l[i] = w
			}
		}
	}
}

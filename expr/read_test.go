package expr_test

import (
	"math"
	"slices"
	"strings"
	"testing"

	"demesne/api"
	"demesne/expr"
	"demesne/sample"
	"demesne/token"
)

// everyToken is a token of each kind and text, but for names and numbers, of which there are some.
const everyToken = sample.Words + " a List 0 907 " + sample.Signs

// tokensOf are the tokens of a text that has no fault.
func tokensOf(t *testing.T, text string) []api.Token {
	t.Helper()
	l, f := token.Of(text)
	if f != (api.Fault{}) {
		t.Fatalf("token.Of(%.60q) has the fault %v", text, f)
	}
	return l
}

// wantRead asks that an expression is read from the text's token at on, up to the one at next.
func wantRead(t *testing.T, text string, at int, want api.Expr, next int) {
	t.Helper()
	e, n, f := expr.Parse(tokensOf(t, text), at)
	if f != (api.Fault{}) || n != next || !alike(e, want) {
		t.Errorf("Parse(%.120q, %d) = %s, %d, %v, want %s, %d", text, at, told(e), n, f, told(want), next)
	}
}

// wantAll asks that a text is one expression, from its first token to its end.
func wantAll(t *testing.T, text string, want api.Expr) {
	t.Helper()
	wantRead(t, text, 0, want, len(tokensOf(t, text))-1)
}

// wantFault asks that what is read from the text's token at on has a fault at a byte.
func wantFault(t *testing.T, text string, at int, err api.Errno, where int) {
	t.Helper()
	e, n, f := expr.Parse(tokensOf(t, text), at)
	if f != (api.Fault{Err: err, At: where}) || n != 0 || !alike(e, api.Expr{}) {
		t.Errorf("Parse(%.120q, %d) = %s, %d, %v, want fault %d at %d", text, at, told(e), n, f, err, where)
	}
}

// model reads an expression in another way: how far it goes is told first, sign by sign, and then it is cut at its loosest sign.
// It knows nothing of depth.
func model(l []api.Token, at int) (api.Expr, int, api.Fault) {
	next, f := extent(l, at)
	if f != (api.Fault{}) {
		return api.Expr{}, 0, f
	}
	return cut(l[at:next]), next, api.Fault{}
}

// extent tells where the longest expression from a token on ends.
func extent(l []api.Token, at int) (int, api.Fault) {
	compared := []bool{false} // for each ( that is open, and outside of all: did a < or == stand there since the last &&?
	top := func() *bool { return &compared[len(compared)-1] }
	wanted := true // an expression, not a sign between two
	for ; ; at++ {
		s, kind := l[at].Text, l[at].Kind
		switch {
		case wanted && s == "!":
		case wanted && s == "(":
			compared = append(compared, false)
		case wanted && (s == "nil" || s == "same"):
			for _, may := range map[string][]string{"nil": {"(", "name this", ")"}, "same": {"(", "name this null", ",", "name this null", ")"}}[s] {
				at++
				is := slices.Contains(strings.Fields(may), l[at].Text) || may == l[at].Text
				if l[at].Kind == api.TName {
					is = strings.HasPrefix(may, "name")
				}
				if !is {
					return 0, api.Fault{Err: api.ErrToken, At: l[at].At}
				}
			}
			wanted = false
		case wanted && (kind == api.TName || kind == api.TNumber || s == "this" || s == "null" || s == "input"):
			wanted = false
		case !wanted && (s == "+" || s == "-" || s == "*"):
			wanted = true
		case !wanted && (s == "<" || s == "==") && !*top():
			*top(), wanted = true, true
		case !wanted && s == "&&":
			*top(), wanted = false, true
		case !wanted && s == ")" && len(compared) > 1:
			compared = compared[:len(compared)-1]
		case !wanted && len(compared) == 1:
			return at, api.Fault{}
		default:
			return 0, api.Fault{Err: api.ErrToken, At: l[at].At}
		}
	}
}

// cut tells what tokens are that are an expression from the first one to the last one.
func cut(l []api.Token) api.Expr {
	for bind := 1; bind <= 4; bind++ {
		open := 0
		for i := len(l) - 1; i >= 0; i-- {
			switch l[i].Text {
			case ")":
				open++
			case "(":
				open--
			}
			for _, s := range signs {
				if open == 0 && s.bind == bind && s.text == l[i].Text {
					return of(s.kind, cut(l[:i]), cut(l[i+1:]))
				}
			}
		}
	}
	switch t := l[0]; t.Text {
	case "!":
		return not(cut(l[1:]))
	case "(":
		return cut(l[1 : len(l)-1])
	case "nil":
		return of(api.ENil, cut(l[2:3]))
	case "same":
		return of(api.ESame, cut(l[2:3]), cut(l[4:5]))
	case "this":
		return this
	case "null":
		return null
	case "input":
		return input
	case "0":
		return num(0)
	case "907":
		return num(907)
	default:
		return name(t.Text)
	}
}

// wantModel asks that all texts of up to so many of the tokens are read as the model reads them.
func wantModel(t *testing.T, alphabet string, most int) {
	t.Helper()
	texts := []string{""}
	for range most + 1 {
		var longer []string
		for _, s := range texts {
			l := tokensOf(t, s)
			e, n, f := expr.Parse(l, 0)
			want, next, fault := model(l, 0)
			if f != fault || n != next || !alike(e, want) {
				t.Fatalf("Parse(%q, 0) = %v, %d, %v, want %v, %d, %v", s, e, n, f, want, next, fault)
			}
			for _, w := range strings.Fields(alphabet) {
				longer = append(longer, s+w+" ")
			}
		}
		texts = longer
		if len(strings.Fields(texts[0])) > most {
			return
		}
	}
}

// 6.1: what is read

func TestReadExampleOfTheChapter(t *testing.T) {
	want := of(api.ESub, of(api.EAdd, name("a"), of(api.EMul, name("b"), of(api.ESub, name("c"), name("d")))), num(1))
	wantRead(t, "a + b * (c - d) - 1", 0, want, 11)
}

func TestReadEachKind(t *testing.T) {
	for text, e := range eachKind() {
		wantAll(t, text, e)
		wantAll(t, "("+text+")", e)
		wantAll(t, "((( "+text+" )))", e)
		wantAll(t, "!("+text+")", not(e))
	}
	wantAll(t, "0", num(0))
	wantAll(t, "999999999", num(999999999))
	wantAll(t, strings.Repeat("x", api.MaxName), name(strings.Repeat("x", api.MaxName)))
	wantAll(t, "nil(this)", of(api.ENil, this))
	for _, a := range []string{"a", "this", "null"} {
		for _, b := range []string{"b", "this", "null"} {
			wantAll(t, "same("+a+", "+b+")", of(api.ESame, eachPlain()[a], eachPlain()[b]))
		}
	}
}

// eachPlain are expressions without Kids, by their texts.
func eachPlain() map[string]api.Expr {
	return map[string]api.Expr{"a": name("a"), "b": name("b"), "this": this, "null": null, "input": input, "0": num(0), "907": num(907)}
}

func TestReadSignsBesideEachOther(t *testing.T) {
	a, b, c := name("a"), name("b"), name("c")
	for _, s := range signs {
		for _, u := range signs {
			text := "a " + s.text + " b " + u.text + " c"
			switch {
			case s.bind < u.bind:
				wantAll(t, text, of(s.kind, a, of(u.kind, b, c)))
			case s.bind == 2 && u.bind == 2:
				wantRead(t, text, 0, of(s.kind, a, b), 3)
			default:
				wantAll(t, text, of(u.kind, of(s.kind, a, b), c))
			}
			wantAll(t, "(a "+s.text+" b) "+u.text+" c", of(u.kind, of(s.kind, a, b), c))
			wantAll(t, "a "+s.text+" (b "+u.text+" c)", of(s.kind, a, of(u.kind, b, c)))
		}
	}
}

func TestReadNotBesideEachSign(t *testing.T) {
	a, b := name("a"), name("b")
	for _, s := range signs {
		wantAll(t, "!a"+s.text+"b", of(s.kind, not(a), b))
		wantAll(t, "a"+s.text+"!b", of(s.kind, a, not(b)))
		wantAll(t, "!!a"+s.text+"!!!b", of(s.kind, not(not(a)), not(not(not(b)))))
		wantAll(t, "!(a"+s.text+"b)", not(of(s.kind, a, b)))
		wantAll(t, "(!a)"+s.text+"(!b)", of(s.kind, not(a), not(b)))
		wantAll(t, "!nil(a)"+s.text+"!same(a,b)", of(s.kind, not(of(api.ENil, a)), not(of(api.ESame, a, b))))
	}
}

func TestReadChainsFromTheLeftOn(t *testing.T) {
	a, b, c, d := name("a"), name("b"), name("c"), name("d")
	for _, s := range signs {
		for _, u := range signs {
			if s.bind != u.bind || s.bind == 2 {
				continue
			}
			wantAll(t, "a"+s.text+"b"+u.text+"c"+s.text+"d", of(s.kind, of(u.kind, of(s.kind, a, b), c), d))
			wantAll(t, "a"+s.text+"(b"+u.text+"c)"+s.text+"d", of(s.kind, of(s.kind, a, of(u.kind, b, c)), d))
			wantAll(t, "a"+s.text+"(b"+u.text+"(c"+s.text+"d))", of(s.kind, a, of(u.kind, b, of(s.kind, c, d))))
		}
	}
}

func TestReadALessOrAnEqualOnce(t *testing.T) {
	a, b, c, d := name("a"), name("b"), name("c"), name("d")
	for _, s := range []string{"<", "=="} {
		kind := map[string]int{"<": api.ELess, "==": api.EEqual}[s]
		for _, u := range []string{"<", "=="} {
			other := map[string]int{"<": api.ELess, "==": api.EEqual}[u]
			wantRead(t, "a"+s+"b"+u+"c", 0, of(kind, a, b), 3)
			wantRead(t, "a+b"+s+"c*d"+u+"1", 0, of(kind, of(api.EAdd, a, b), of(api.EMul, c, d)), 7)
			wantRead(t, "a&&b"+s+"c"+u+"d&&a", 0, of(api.EAnd, a, of(kind, b, c)), 5)
			wantAll(t, "a"+s+"b&&c"+u+"d", of(api.EAnd, of(kind, a, b), of(other, c, d)))
			wantAll(t, "(a"+s+"b)"+u+"c", of(other, of(kind, a, b), c))
			wantAll(t, "(a"+s+"b)"+u+"(c"+s+"d)", of(other, of(kind, a, b), of(kind, c, d)))
			// Between ( and ) it can't end ahead of the second one.
			wantFault(t, "(a"+s+"b"+u+"c)", 0, api.ErrToken, 3+len(s))
			wantFault(t, "!(a&&b"+s+"c"+u+"d)", 0, api.ErrToken, 7+len(s))
		}
	}
}

func TestReadNoMoreThanWhatStandsBetween(t *testing.T) {
	a, b := name("a"), name("b")
	wantAll(t, "((((a))))", a)
	wantAll(t, "(((a)+((b))))", of(api.EAdd, a, b))
	wantAll(t, "(a+b)*(a-b)", of(api.EMul, of(api.EAdd, a, b), of(api.ESub, a, b)))
	wantAll(t, "!((!(a)))", not(not(a)))
	wantAll(t, "(nil(a))&&(same(a,b))", of(api.EAnd, of(api.ENil, a), of(api.ESame, a, b)))
}

func TestReadAllShortTextsOfSigns(t *testing.T) {
	wantModel(t, "a 907 + - * < == && ! ( )", 4)
	wantModel(t, "a - < && ! ( )", 6)
	wantModel(t, "a + * == ( )", 6)
}

func TestReadAllShortTextsOfNilAndSame(t *testing.T) {
	wantModel(t, "nil same ( ) , a this null", 6)
	wantModel(t, "nil ( a ) ! && <", 6)
}

func TestReadAllTextsOfTwoTokens(t *testing.T) {
	wantModel(t, everyToken, 2)
	for _, begin := range []string{"a", "( a", "a +", "! (", "nil (", "nil ( a", "same ( a", "same ( a ,", "same ( a , null", "nil ( this )"} {
		for _, s := range strings.Fields(everyToken) {
			for _, u := range strings.Fields(everyToken) {
				text := begin + " " + s + " " + u
				l := tokensOf(t, text)
				want, next, fault := model(l, 0)
				if fault != (api.Fault{}) {
					wantFault(t, text, 0, fault.Err, fault.At)
				} else {
					wantRead(t, text, 0, want, next)
				}
			}
		}
	}
}

// 6.1: where it ends

func TestReadEndsAheadOfOtherTokens(t *testing.T) {
	sum := of(api.EAdd, name("a"), num(1))
	behind := " + - * < == && "
	for _, s := range strings.Fields(everyToken) {
		if strings.Contains(behind, " "+s+" ") {
			continue
		}
		wantRead(t, "a + 1 "+s, 0, sum, 3)
		wantRead(t, "a + 1 "+s+" a", 0, sum, 3)
		wantRead(t, "(a + 1) "+s+" )", 0, sum, 5)
		wantRead(t, "nil(a) "+s, 0, of(api.ENil, name("a")), 4)
		wantRead(t, "same(a, b) "+s, 0, of(api.ESame, name("a"), name("b")), 6)
		wantRead(t, "!this "+s, 0, not(this), 2)
	}
	wantRead(t, "a)", 0, name("a"), 1)
	wantRead(t, "(a))", 0, name("a"), 3)
	wantRead(t, "a(b)", 0, name("a"), 1)
	wantRead(t, "a.f", 0, name("a"), 1)
	wantRead(t, "1 2", 0, num(1), 1)
	wantRead(t, "a = b", 0, name("a"), 1)
	wantRead(t, "a ! b", 0, name("a"), 1)
	wantRead(t, "a < b > c", 0, of(api.ELess, name("a"), name("b")), 3)
}

func TestReadFromATokenOn(t *testing.T) {
	text := "x = ( a + 1 ) * nil ( b ) ; same"
	a, b := name("a"), of(api.ENil, name("b"))
	sum := of(api.EAdd, a, num(1))
	wantRead(t, text, 0, name("x"), 1)
	wantFault(t, text, 1, api.ErrToken, 2)
	wantRead(t, text, 2, of(api.EMul, sum, b), 12)
	wantRead(t, text, 3, sum, 6)
	wantFault(t, text, 4, api.ErrToken, 8)
	wantRead(t, text, 5, num(1), 6)
	wantFault(t, text, 6, api.ErrToken, 12)
	wantFault(t, text, 7, api.ErrToken, 14)
	wantRead(t, text, 8, b, 12)
	wantRead(t, text, 9, name("b"), 12)
	wantRead(t, text, 10, name("b"), 11)
	wantFault(t, text, 11, api.ErrToken, 24)
	wantFault(t, text, 12, api.ErrToken, 26)
	wantFault(t, text, 13, api.ErrToken, len(text))
	wantFault(t, text, 14, api.ErrToken, len(text))
}

func TestBehindTheLastTokenAndAheadOfTheFirstStandsAnEnd(t *testing.T) {
	for _, at := range []int{math.MinInt, math.MinInt + 1, -77, -2, -1, 3, 4, 5, 6, 77, math.MaxInt - 1, math.MaxInt} {
		wantFault(t, "a + 1  // c", at, api.ErrToken, 11)
		wantFault(t, "", at, api.ErrToken, 0)
	}
	wantRead(t, "a + 1  // c", 2, num(1), 3)
	wantFault(t, "", 0, api.ErrToken, 0)
	wantFault(t, " \n ", 0, api.ErrToken, 3)
}

func TestReadNoTokensAtAll(t *testing.T) {
	for _, l := range [][]api.Token{nil, {}} {
		for _, at := range []int{math.MinInt, -1, 0, 1, math.MaxInt} {
			if e, n, f := expr.Parse(l, at); f != (api.Fault{Err: api.ErrToken}) || n != 0 || !alike(e, api.Expr{}) {
				t.Errorf("Parse of no tokens at %d = %v, %d, %v", at, e, n, f)
			}
		}
	}
}

func TestReadTokensWithoutAnEnd(t *testing.T) {
	l := tokensOf(t, "1 + same(a, 2")
	l = l[:len(l)-1]
	for n, want := range []api.Fault{1: {}, 2: {Err: api.ErrToken, At: 2}, 3: {Err: api.ErrToken, At: 4}, 4: {Err: api.ErrToken, At: 8}, 5: {Err: api.ErrToken, At: 9}, 6: {Err: api.ErrToken, At: 10}, 7: {Err: api.ErrToken, At: 12}} {
		if _, _, f := expr.Parse(l[:n], 0); n > 0 && f != want {
			t.Errorf("Parse of the first %d of %v has the fault %v, want %v", n, l, f, want)
		}
	}
	if e, n, f := expr.Parse(l[:1], 0); f != (api.Fault{}) || n != 1 || !alike(e, num(1)) {
		t.Errorf("Parse of one token = %v, %d, %v", e, n, f)
	}
}

// 6.1: what can't stand there

func TestTokensThatCannotBegin(t *testing.T) {
	begins := " this null input nil same a List 0 907 ( ! "
	for _, s := range strings.Fields(everyToken) {
		if strings.Contains(begins, " "+s+" ") {
			continue
		}
		wantFault(t, s, 0, api.ErrToken, 0)
		wantFault(t, s+" a", 0, api.ErrToken, 0)
		wantFault(t, "! "+s, 0, api.ErrToken, 2)
		wantFault(t, "(( "+s, 0, api.ErrToken, 3)
		for _, u := range signs {
			wantFault(t, "a "+u.text+" "+s, 0, api.ErrToken, 3+len(u.text))
			wantFault(t, "a "+u.text+" !"+s+" a", 0, api.ErrToken, 4+len(u.text))
		}
	}
}

func TestAnExpressionThatDoesNotGoOn(t *testing.T) {
	for _, s := range signs {
		wantFault(t, "1 "+s.text, 0, api.ErrToken, 2+len(s.text))
		wantFault(t, "1 "+s.text+" // a", 0, api.ErrToken, 7+len(s.text))
	}
	for _, text := range []string{"!", "(", "((", "!(", "(a", "(a+1", "((a)", "nil", "nil(", "nil(a", "same", "same(", "same(a", "same(a,", "same(a,b", "(nil(a)", "1+(2*(3-4)"} {
		wantFault(t, text, 0, api.ErrToken, len(text))
	}
}

func TestTokensThatCannotCloseABracket(t *testing.T) {
	for _, s := range strings.Fields(everyToken) {
		if s == ")" || slices.ContainsFunc(strings.Fields("+ - * < == &&"), func(sign string) bool { return sign == s }) {
			continue
		}
		wantFault(t, "(a "+s, 0, api.ErrToken, 3)
		wantFault(t, "1 + (!(2) "+s+" )", 0, api.ErrToken, 10)
	}
	wantFault(t, "()", 0, api.ErrToken, 1)
	wantFault(t, "(a+)", 0, api.ErrToken, 3)
	wantFault(t, "(a,b)", 0, api.ErrToken, 2)
}

func TestKidsOfNilAndSameStandBare(t *testing.T) {
	for _, s := range strings.Fields(everyToken) {
		word := s == "a" || s == "List" || s == "this"
		if s != "(" {
			wantFault(t, "nil "+s+" a)", 0, api.ErrToken, 4)
			wantFault(t, "same "+s+" a, b)", 0, api.ErrToken, 5)
		}
		if !word {
			wantFault(t, "nil( "+s+" )", 0, api.ErrToken, 5)
		}
		if !word && s != "null" {
			wantFault(t, "same( "+s+" , a)", 0, api.ErrToken, 6)
			wantFault(t, "same(a, "+s+" )", 0, api.ErrToken, 8)
		}
		if s != ")" {
			wantFault(t, "nil(a "+s+" )", 0, api.ErrToken, 6)
			wantFault(t, "same(a,b "+s+" )", 0, api.ErrToken, 9)
		}
		if s != "," {
			wantFault(t, "same(a "+s+" b)", 0, api.ErrToken, 7)
		}
	}
	wantFault(t, "nil((a))", 0, api.ErrToken, 4)
	wantFault(t, "same((a),b)", 0, api.ErrToken, 5)
	wantFault(t, "same(a,(b))", 0, api.ErrToken, 7)
	wantFault(t, "nil(a,b)", 0, api.ErrToken, 5)
	wantFault(t, "same(a)", 0, api.ErrToken, 6)
	wantFault(t, "same(a,b,c)", 0, api.ErrToken, 8)
	wantFault(t, "nil()", 0, api.ErrToken, 4)
	wantFault(t, "nil a", 0, api.ErrToken, 4)
}

func TestTheFirstThatIsWrongIsTold(t *testing.T) {
	wantFault(t, "a + ) * (", 0, api.ErrToken, 4)
	wantFault(t, "nil(1) + nil(2)", 0, api.ErrToken, 4)
	wantFault(t, "(a b) + )", 0, api.ErrToken, 3)
	wantFault(t, ")"+strings.Repeat("(", 30), 0, api.ErrToken, 0)
	wantFault(t, strings.Repeat("(", 21)+")", 0, api.ErrDeep, 20)
}

// 6.1: how deep it may be

func TestReadTwentyDeepAtMost(t *testing.T) {
	for _, s := range signs {
		if s.bind == 2 {
			continue
		}
		step := " " + s.text + " 1"
		wantAll(t, "1"+strings.Repeat(step, 19), chain(s.kind, 20, false))
		for _, n := range []int{20, 21, 50} {
			wantFault(t, "1"+strings.Repeat(step, n), 0, api.ErrDeep, 2+19*len(step))
		}
	}
	wantAll(t, strings.Repeat("!", 19)+"1", chain(api.ENot, 20, false))
	wantFault(t, strings.Repeat("!", 20)+"1", 0, api.ErrDeep, 0)
	wantFault(t, strings.Repeat("!", 19)+"nil(a)", 0, api.ErrDeep, 0)
	wantFault(t, "  "+strings.Repeat("! ", 19)+"same(a, b)", 0, api.ErrDeep, 2)
	wantFault(t, "a + "+strings.Repeat("!", 19)+"1", 0, api.ErrDeep, 2)
	wantFault(t, strings.Repeat("!", 19)+"1 < a", 0, api.ErrDeep, 21)
}

func TestReadTwentyDeepToTheRight(t *testing.T) {
	for _, s := range signs {
		open := "1 " + s.text + " ("
		wantAll(t, strings.Repeat(open, 18)+"1 "+s.text+" 1"+strings.Repeat(")", 18), chain(s.kind, 20, true))
		// Each sign is asked behind its Kid: the first one, which is the one too many, last of all.
		text := strings.Repeat(open, 19) + "1 " + s.text + " 1" + strings.Repeat(")", 18)
		wantFault(t, text+")", 0, api.ErrDeep, 2)
		wantFault(t, text+" ;", 0, api.ErrToken, len(text)+1)
		wantFault(t, text, 0, api.ErrToken, len(text))
	}
}

func TestADeepTokenIsAskedBehindItsKid(t *testing.T) {
	full := "1" + strings.Repeat("+1", 19)
	for _, s := range signs {
		text := full + " " + s.text + " "
		if s.bind <= 3 {
			wantFault(t, text+"1", 0, api.ErrDeep, len(full)+1)
		}
		wantFault(t, text+")", 0, api.ErrToken, len(text))
		wantFault(t, text, 0, api.ErrToken, len(text))
		wantFault(t, text+"(1", 0, api.ErrToken, len(text)+2)
		wantFault(t, text+"nil(1)", 0, api.ErrToken, len(text)+4)
	}
	// The Kid behind a sign is read whole, with all that binds tighter: so the last + has a Kid that is deeper than 1.
	wantAll(t, full+" * 1", of(api.EAdd, chain(api.EAdd, 19, false), of(api.EMul, num(1), num(1))))
	wantFault(t, full+strings.Repeat(" * 1", 19), 0, api.ErrDeep, len(full)-2)
	wantFault(t, full+strings.Repeat(" * 1", 20), 0, api.ErrDeep, len(full)+19*4+1)
	wantFault(t, full+strings.Repeat(" * 1", 19)+" * )", 0, api.ErrToken, len(full)+19*4+3)
	wantFault(t, full+" + 1 * )", 0, api.ErrToken, len(full)+7)
	wantFault(t, full+" < 1 + )", 0, api.ErrToken, len(full)+7)
	wantFault(t, full+" < 1 + 1 * 1 < )", 0, api.ErrDeep, len(full)+1)
	wantFault(t, full+" && 1 == 1 - )", 0, api.ErrToken, len(full)+13)
	// What is too deep is told ahead of what is wrong behind it.
	wantFault(t, "("+full+" + 1 ;", 0, api.ErrDeep, len(full)+2)
	wantFault(t, strings.Repeat("!", 20)+"1 )", 0, api.ErrDeep, 0)
	wantFault(t, strings.Repeat("!", 20)+")", 0, api.ErrToken, 20)
	// Of several tokens with one Kid's end, the one within comes first.
	wantFault(t, "!!("+full+"+1)", 0, api.ErrDeep, len(full)+3)
	wantFault(t, "!!("+full+")", 0, api.ErrDeep, 1)
	wantFault(t, "a && !("+full+")", 0, api.ErrDeep, 5)
	wantFault(t, "a && ("+full+")", 0, api.ErrDeep, 2)
	wantAll(t, "("+full+")", chain(api.EAdd, 20, false))
}

func TestBracketsAreNoDeeper(t *testing.T) {
	e := chain(api.EAdd, 20, false)
	full := expr.Text(e)
	wantAll(t, strings.Repeat("(", 20)+full+strings.Repeat(")", 20), e)
	wantAll(t, strings.Repeat("(", 20)+"nil(a)"+strings.Repeat(")", 20), of(api.ENil, name("a")))
	wantAll(t, strings.Repeat("(", 20)+"same(a, this)"+strings.Repeat(")", 20), of(api.ESame, name("a"), this))
}

func TestTwentyBracketsAndNotsWithinOneAnother(t *testing.T) {
	wantAll(t, strings.Repeat("(", 20)+"1"+strings.Repeat(")", 20), num(1))
	for _, n := range []int{21, 22, 40, 1000, 4000} {
		wantFault(t, strings.Repeat("(", n)+"1"+strings.Repeat(")", n), 0, api.ErrDeep, 20)
		wantFault(t, strings.Repeat("(", n), 0, api.ErrDeep, 20)
		wantFault(t, strings.Repeat("!", n)+"1", 0, api.ErrDeep, 20)
		wantFault(t, strings.Repeat("!", n), 0, api.ErrDeep, 20)
		wantFault(t, strings.Repeat("!(", n)+"1", 0, api.ErrDeep, 20)
		wantFault(t, strings.Repeat("( ! ", n)+"1", 0, api.ErrDeep, 40)
	}
	wantFault(t, strings.Repeat("!", 20)+"(1)", 0, api.ErrDeep, 20)
	wantFault(t, strings.Repeat("(", 20)+"!1", 0, api.ErrDeep, 20)
	nots := num(1)
	for range 10 {
		nots = not(nots)
	}
	wantAll(t, strings.Repeat("!(", 10)+"1"+strings.Repeat(")", 10), nots)
	wantAll(t, strings.Repeat("(!", 10)+"1"+strings.Repeat(")", 10), nots)
	wantFault(t, strings.Repeat("!(", 10)+"!1", 0, api.ErrDeep, 20)
	wantFault(t, strings.Repeat("!(", 10)+"(1", 0, api.ErrDeep, 20)
}

func TestBracketsAndNotsBesideOneAnother(t *testing.T) {
	open := strings.Repeat("(", 20) + "1" + strings.Repeat(")", 20)
	for _, s := range signs {
		wantAll(t, open+s.text+open, of(s.kind, num(1), num(1)))
		wantFault(t, open+s.text+"("+open+")", 0, api.ErrDeep, len(open)+len(s.text)+20)
		wantAll(t, "!(!a)"+s.text+strings.Repeat("(", 20)+"b"+strings.Repeat(")", 20), of(s.kind, not(not(name("a"))), name("b")))
	}
	ten := strings.Repeat("(", 10) + "a" + strings.Repeat(")", 10)
	wantAll(t, strings.Repeat("(", 10)+ten+"-"+ten+strings.Repeat(")", 10)+"*"+open, of(api.EMul, of(api.ESub, name("a"), name("a")), num(1)))
	nots := strings.Repeat("!", 18) + "1"
	wantAll(t, nots+"-"+nots, of(api.ESub, chain(api.ENot, 19, false), chain(api.ENot, 19, false)))
}

func TestReadAGreatExpression(t *testing.T) {
	e, text := name("a"), "a"
	for i := range 11 {
		s := signs[i%len(signs)]
		e, text = of(s.kind, e, e), "("+text+")"+s.text+"("+text+")"
	}
	wantAll(t, text, e)
}

// What is handed in

func TestTokensStayAsTheyWere(t *testing.T) {
	spare := api.Token{Kind: api.TSign, Text: "+", At: 77}
	for _, text := range []string{"", "a", "a + b * (c - d) - 1", "!nil(a) && same(this, null)", "a +", "nil(1)", "((", strings.Repeat("(", 30), "1" + strings.Repeat("+1", 30)} {
		room := append(tokensOf(t, text), spare, spare, spare)
		before := slices.Clone(room)
		l := room[:len(room)-3]
		for at := -2; at < len(l)+2; at++ {
			expr.Parse(l, at)
		}
		if !slices.Equal(room, before) {
			t.Errorf("%v was %v before", room, before)
		}
	}
}

func TestAnswersShareNothing(t *testing.T) {
	l := tokensOf(t, "a + b * (c - d) - 1")
	first, _, _ := expr.Parse(l, 0)
	want := clone(first)
	second, _, _ := expr.Parse(l, 0)
	if !alike(second, want) {
		t.Errorf("read again it is %v, not %v", second, want)
	}
	// Whoever writes into one list of an answer writes into no other one.
	first.Kids[0].Kids = append(first.Kids[0].Kids, this, this)
	first.Kids[1] = null
	first.Kids[0].Kids[1].Kids[0].Name = "z"
	if !alike(second, want) || !slices.Equal(l, tokensOf(t, "a + b * (c - d) - 1")) {
		t.Errorf("another answer has become %v", second)
	}
	if !alike(first.Kids[0].Kids[1].Kids[1], of(api.ESub, name("c"), name("d"))) {
		t.Errorf("another list of the answer has become %v", first.Kids[0].Kids[1].Kids[1])
	}
}

func TestTokensThatNoTextHas(t *testing.T) {
	kinds := []int{math.MinInt, -1, api.TEnd, api.TName, api.TNumber, api.TWord, api.TSign, 5, math.MaxInt}
	texts := []string{"", "a", "1", "007", "(", ")", "!", "nil", "same", ",", "this", "&&", "<", "\x00"}
	var all []api.Token
	for _, k := range kinds {
		for _, s := range texts {
			all = append(all, api.Token{Kind: k, Text: s, At: -len(all)})
		}
	}
	for i := range all {
		for j := range all {
			expr.Parse([]api.Token{all[i], all[j], all[i], all[j], all[j], all[i]}, 0)
		}
	}
	for _, x := range all {
		for _, n := range []int{1, 2, 100, 1000} {
			expr.Parse(slices.Repeat([]api.Token{x}, n), 0)
		}
	}
}

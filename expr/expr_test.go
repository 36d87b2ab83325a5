package expr_test

import (
	"fmt"
	"math"
	"slices"
	"strings"
	"testing"

	"demesne/api"
	"demesne/expr"
	"demesne/token"
)

var (
	this  = api.Expr{Kind: api.EThis}
	null  = api.Expr{Kind: api.ENull}
	input = api.Expr{Kind: api.EInput}
)

// numbers are what a Num is tried with: the edges, and what lies about them.
var numbers = []int{math.MinInt, math.MinInt + 1, -1000000000, -999999999, -1, 0, 1, 2, 10, 77, 999999998, 999999999, 1000000000, 1000000001, math.MaxInt - 1, math.MaxInt}

// noKinds are kinds that there are none of.
var noKinds = []int{api.ENone, api.ESame + 1, 16, 77, 256 + api.EInt, 256 + api.EAdd, -1, -api.EVar, -api.EAdd, math.MinInt, math.MaxInt}

// noNames are texts that name no variable.
var noNames = []string{
	"", " ", "1", "1a", "a b", " a", "a ", "a_b", "_", "a.b", "a+b", "(a)", "\x00", "a\x00", "\xff", "é", "aé",
	strings.Repeat("a", api.MaxName+1),
	"class", "extends", "rep", "peer", "world", "any", "unique", "pure", "void", "int", "if", "else", "while",
	"return", "new", "move", "delete", "this", "null", "input", "nil", "same", "cast",
}

func num(n int) api.Expr { return api.Expr{Kind: api.EInt, Num: n} }

func name(s string) api.Expr { return api.Expr{Kind: api.EVar, Name: s} }

func of(kind int, kids ...api.Expr) api.Expr { return api.Expr{Kind: kind, Kids: kids} }

func not(e api.Expr) api.Expr { return of(api.ENot, e) }

// signs are the signs between two Kids, with how tightly they bind.
var signs = []struct {
	text       string
	kind, bind int
}{
	{"&&", api.EAnd, 1},
	{"<", api.ELess, 2},
	{"==", api.EEqual, 2},
	{"+", api.EAdd, 3},
	{"-", api.ESub, 3},
	{"*", api.EMul, 4},
}

// eachKind is one expression of each kind that may be, with its text.
func eachKind() map[string]api.Expr {
	a, b := name("a"), name("b")
	m := map[string]api.Expr{
		"7": num(7), "a": a, "this": this, "null": null, "input": input,
		"!a": not(a), "nil(a)": of(api.ENil, a), "same(a, b)": of(api.ESame, a, b),
	}
	for _, s := range signs {
		m["a "+s.text+" b"] = of(s.kind, a, b)
	}
	return m
}

// alike tells whether two expressions are the same, a list that is empty being the same as none.
func alike(a, b api.Expr) bool {
	return a.Kind == b.Kind && a.Num == b.Num && a.Name == b.Name && slices.EqualFunc(a.Kids, b.Kids, alike)
}

// clone is a copy that shares no list with e.
func clone(e api.Expr) api.Expr {
	var kids []api.Expr
	for _, k := range e.Kids {
		kids = append(kids, clone(k))
	}
	e.Kids = kids
	return e
}

// chain is an expression of a kind that is so deep, all of it to the left, or to the right.
func chain(kind, deep int, right bool) api.Expr {
	e := num(1)
	for i := 1; i < deep; i++ {
		switch {
		case kind == api.ENot:
			e = not(e)
		case right:
			e = of(kind, num(1), e)
		default:
			e = of(kind, e, num(1))
		}
	}
	return e
}

// grown are all expressions that the kinds, over the Kids that may stand there, make of these; and these.
func grown(l []api.Expr, kinds ...int) []api.Expr {
	all := slices.Clone(l)
	for _, kind := range kinds {
		for _, a := range l {
			if kind == api.ENot {
				all = append(all, not(a))
				continue
			}
			for _, b := range l {
				all = append(all, of(kind, a, b))
			}
		}
	}
	return all
}

// told is how a failed test tells an expression, or any other thing, that may be great.
func told(e any) string { return fmt.Sprintf("%.200s", fmt.Sprint(e)) }

func wantRight(t *testing.T, e api.Expr, want bool) {
	t.Helper()
	if got := expr.Right(e); got != want {
		t.Errorf("Right(%s) = %v, want %v", told(e), got, want)
	}
	if got := expr.Text(e); (got != "") != want {
		t.Errorf("Text(%s) = %.120q, but may it be: %v", told(e), got, want)
	}
}

func wantText(t *testing.T, e api.Expr, want string) {
	t.Helper()
	if got := expr.Text(e); got != want {
		t.Errorf("Text(%s) = %.120q, want %.120q", told(e), got, want)
	}
}

func wantNames(t *testing.T, e api.Expr, want ...string) {
	t.Helper()
	if got := expr.Names(e); !slices.Equal(got, want) {
		t.Errorf("Names(%s) = %s, want %s", told(e), told(got), told(want))
	}
}

func wantSame(t *testing.T, a, b api.Expr, want bool) {
	t.Helper()
	if got := expr.Same(a, b); got != want {
		t.Errorf("Same(%s, %s) = %v, want %v", told(a), told(b), got, want)
	}
	if got := expr.Same(b, a); got != want {
		t.Errorf("Same(%s, %s) = %v, want %v", told(b), told(a), got, want)
	}
}

// wantBack asks that an expression comes back from its text's tokens, and that they end behind it.
func wantBack(t *testing.T, e api.Expr) {
	t.Helper()
	s := expr.Text(e)
	l, f := token.Of(s)
	if f != (api.Fault{}) || s == "" {
		t.Fatalf("the text %.120q of %s has the fault %v", s, told(e), f)
	}
	got, n, f := expr.Parse(l, 0)
	if f != (api.Fault{}) || n != len(l)-1 || !alike(got, e) {
		t.Fatalf("%s, written %.120q, comes back as %s, %d, %v", told(e), s, told(got), n, f)
	}
}

// 6.2 Right

func TestEachKindMayBe(t *testing.T) {
	for _, e := range eachKind() {
		wantRight(t, e, true)
	}
}

func TestOtherKindsMayNotBe(t *testing.T) {
	for _, kind := range noKinds {
		for _, e := range eachKind() {
			e.Kind = kind
			wantRight(t, e, false)
		}
		wantRight(t, api.Expr{Kind: kind}, false)
		wantRight(t, not(api.Expr{Kind: kind}), false)
	}
	wantRight(t, api.Expr{}, false)
}

func TestNumbersFromNoughtToNineDigits(t *testing.T) {
	for _, n := range numbers {
		wantRight(t, num(n), 0 <= n && n <= 999999999)
		wantRight(t, of(api.EAdd, num(1), num(n)), 0 <= n && n <= 999999999)
	}
}

func TestAVariableHasAName(t *testing.T) {
	for _, s := range []string{"a", "Z", "x1", "self", "This", "nil1", "Null", strings.Repeat("a", api.MaxName)} {
		wantRight(t, name(s), true)
		wantRight(t, of(api.ENil, name(s)), true)
	}
	for _, s := range noNames {
		wantRight(t, name(s), false)
		wantRight(t, of(api.ENil, name(s)), false)
		wantRight(t, of(api.ESame, name("a"), name(s)), false)
		wantRight(t, of(api.EMul, name(s), num(1)), false)
	}
}

func TestWhatAKindHasNotIsZero(t *testing.T) {
	for _, e := range eachKind() {
		for _, n := range numbers {
			x := e
			x.Num = n
			wantRight(t, x, n == 0 || e.Kind == api.EInt && 0 < n && n <= 999999999)
		}
		for _, s := range []string{"", "b", "List", "this", " ", "\x00"} {
			x := e
			x.Name = s
			wantRight(t, x, (e.Kind != api.EVar) == (s == "") && s != "this" && s != " " && s != "\x00")
		}
	}
}

func TestEachKindHasItsNumberOfKids(t *testing.T) {
	for _, e := range eachKind() {
		for n := range 7 {
			x := e
			x.Kids = slices.Repeat([]api.Expr{name("c")}, n)
			wantRight(t, x, n == len(e.Kids))
		}
	}
}

func TestAnEmptyListOfKidsIsNone(t *testing.T) {
	for s, e := range eachKind() {
		if len(e.Kids) == 0 {
			e.Kids = []api.Expr{}
			wantRight(t, e, true)
			wantText(t, e, s)
			e.Kids = make([]api.Expr, 0, 5)
			wantRight(t, e, true)
		}
	}
}

func TestNilIsAskedOfVariablesAndThis(t *testing.T) {
	for _, k := range eachKind() {
		wantRight(t, of(api.ENil, k), k.Kind == api.EVar || k.Kind == api.EThis)
	}
	for _, kind := range noKinds {
		wantRight(t, of(api.ENil, api.Expr{Kind: kind}), false)
	}
}

func TestSameIsAskedOfVariablesThisAndNull(t *testing.T) {
	bare := []int{api.EVar, api.EThis, api.ENull}
	for _, a := range eachKind() {
		for _, b := range eachKind() {
			wantRight(t, of(api.ESame, a, b), slices.Contains(bare, a.Kind) && slices.Contains(bare, b.Kind))
		}
		for _, kind := range noKinds {
			wantRight(t, of(api.ESame, a, api.Expr{Kind: kind}), false)
			wantRight(t, of(api.ESame, api.Expr{Kind: kind}, a), false)
		}
	}
}

func TestAllKidsMayBe(t *testing.T) {
	wrong := []api.Expr{{}, num(-1), name("int"), not(num(1000000000)), of(api.ENil, null), of(api.EAdd, num(1)), {Kind: api.EThis, Num: 1}}
	for _, w := range wrong {
		for _, s := range signs {
			wantRight(t, of(s.kind, w, num(1)), false)
			wantRight(t, of(s.kind, num(1), w), false)
			wantRight(t, of(s.kind, of(s.kind, num(1), not(w)), num(1)), false)
			wantRight(t, of(s.kind, num(1), of(s.kind, not(w), num(1))), false)
		}
		wantRight(t, not(w), false)
	}
}

func TestAnExpressionIsTwentyDeepAtMost(t *testing.T) {
	for _, kind := range []int{api.ENot, api.EAdd, api.ESub, api.EMul, api.ELess, api.EEqual, api.EAnd} {
		for deep := 1; deep <= 45; deep++ {
			wantRight(t, chain(kind, deep, false), deep <= 20)
			wantRight(t, chain(kind, deep, true), deep <= 20)
		}
	}
	for _, leaf := range []api.Expr{of(api.ENil, this), of(api.ESame, null, name("a"))} {
		e := leaf
		for range 18 {
			e = of(api.EMul, input, e)
		}
		// What nil and same are asked of is a Kid, and one deeper.
		wantRight(t, e, true)
		wantRight(t, not(e), false)
		wantRight(t, of(api.EAdd, e, num(1)), false)
		wantRight(t, of(api.EAdd, num(1), e), false)
	}
}

func TestWhatStandsWithinItselfMayNotBe(t *testing.T) {
	endless := make([]api.Expr, 1)
	endless[0] = api.Expr{Kind: api.ENot, Kids: endless}
	wantEndless(t, endless[0])
	both := make([]api.Expr, 2)
	both[0] = api.Expr{Kind: api.EAdd, Kids: both}
	both[1] = both[0]
	wantEndless(t, both[0])
}

// wantEndless asks what can be asked of an expression that can't be told.
func wantEndless(t *testing.T, e api.Expr) {
	t.Helper()
	if expr.Right(e) || expr.Text(e) != "" {
		t.Errorf("an expression without an end may be, or is written")
	}
}

// 6.2 Text

func TestTextOfEachKind(t *testing.T) {
	for s, e := range eachKind() {
		wantText(t, e, s)
	}
	wantText(t, num(0), "0")
	wantText(t, num(999999999), "999999999")
	wantText(t, name("x1"), "x1")
	wantText(t, of(api.ENil, this), "nil(this)")
	wantText(t, of(api.ESame, null, this), "same(null, this)")
	wantText(t, of(api.ESame, null, null), "same(null, null)")
}

func TestTextExampleOfTheChapter(t *testing.T) {
	e := of(api.ESub, of(api.EAdd, name("a"), of(api.EMul, name("b"), of(api.ESub, name("c"), name("d")))), num(1))
	wantText(t, e, "a + b * (c - d) - 1")
}

func TestTextOfOthersIsNothing(t *testing.T) {
	for _, e := range []api.Expr{{}, num(-1), num(1000000000), name(""), name("int"), of(api.EAdd, num(1)), of(api.ENil, null), of(api.ENil), chain(api.EAdd, 21, false), not(api.Expr{})} {
		wantText(t, e, "")
	}
}

func TestSignsBesideEachOther(t *testing.T) {
	a, b, c := name("a"), name("b"), name("c")
	for _, s := range signs {
		for _, u := range signs {
			inner := "a " + u.text + " b"
			if left := of(s.kind, of(u.kind, a, b), c); u.bind > s.bind || u.bind == s.bind && s.bind != 2 {
				wantText(t, left, inner+" "+s.text+" c")
			} else {
				wantText(t, left, "("+inner+") "+s.text+" c")
			}
			if right := of(s.kind, c, of(u.kind, a, b)); u.bind > s.bind {
				wantText(t, right, "c "+s.text+" "+inner)
			} else {
				wantText(t, right, "c "+s.text+" ("+inner+")")
			}
		}
	}
}

func TestNotBesideEachSign(t *testing.T) {
	a, b := name("a"), name("b")
	for _, s := range signs {
		wantText(t, not(of(s.kind, a, b)), "!(a "+s.text+" b)")
		wantText(t, of(s.kind, not(a), b), "!a "+s.text+" b")
		wantText(t, of(s.kind, a, not(b)), "a "+s.text+" !b")
		wantText(t, not(not(of(s.kind, not(a), not(not(b))))), "!!(!a "+s.text+" !!b)")
	}
}

func TestNoneAroundKidsWithoutSigns(t *testing.T) {
	for text, e := range eachKind() {
		if len(e.Kids) == 2 && e.Kind != api.ESame {
			continue
		}
		wantText(t, not(e), "!"+text)
		for _, s := range signs {
			wantText(t, of(s.kind, e, e), text+" "+s.text+" "+text)
		}
	}
}

func TestTextOfChains(t *testing.T) {
	for _, s := range signs {
		sign := " " + s.text + " "
		if s.bind != 2 {
			wantText(t, chain(s.kind, 4, false), strings.Repeat("1"+sign, 3)+"1")
		} else {
			wantText(t, chain(s.kind, 4, false), "((1"+sign+"1)"+sign+"1)"+sign+"1")
		}
		wantText(t, chain(s.kind, 4, true), "1"+sign+"(1"+sign+"(1"+sign+"1))")
	}
	wantText(t, chain(api.ENot, 20, false), strings.Repeat("!", 19)+"1")
	wantText(t, chain(api.EAdd, 20, false), "1"+strings.Repeat(" + 1", 19))
	wantText(t, chain(api.EAdd, 20, true), strings.Repeat("1 + (", 18)+"1 + 1"+strings.Repeat(")", 18))
}

// brackets are the places of each ( that is not of nil or of same, and of the ) that belongs to it.
func brackets(s string) [][2]int {
	var open []int
	var l [][2]int
	for i := range len(s) {
		switch s[i] {
		case '(':
			open = append(open, i)
		case ')':
			from := open[len(open)-1]
			open = open[:len(open)-1]
			if !strings.HasSuffix(s[:from], "nil") && !strings.HasSuffix(s[:from], "same") {
				l = append(l, [2]int{from, i})
			}
		}
	}
	return l
}

func TestBracketsJustWhereItWouldBeReadOtherwise(t *testing.T) {
	leaves := []api.Expr{name("a"), of(api.ENil, name("a")), of(api.ESame, this, null)}
	l := grown(grown(leaves, api.EAdd, api.ESub, api.EMul, api.ELess, api.EEqual, api.EAnd, api.ENot),
		api.ESub, api.EMul, api.ELess, api.EAnd, api.ENot)
	for _, e := range l {
		s := expr.Text(e)
		for _, b := range brackets(s) {
			without := s[:b[0]] + s[b[0]+1:b[1]] + s[b[1]+1:]
			tokens, _ := token.Of(without)
			got, n, f := expr.Parse(tokens, 0)
			if f == (api.Fault{}) && n == len(tokens)-1 && alike(got, e) {
				t.Fatalf("%v is written %q, but %q is read as it, too", e, s, without)
			}
		}
	}
}

// 6.2 Names

func TestNamesFromTheLeftOn(t *testing.T) {
	a, b, c := name("a"), name("b"), name("c")
	wantNames(t, a, "a")
	wantNames(t, of(api.EAdd, b, a), "b", "a")
	wantNames(t, of(api.ESub, of(api.EMul, c, not(a)), of(api.ESame, b, c)), "c", "a", "b", "c")
	wantNames(t, of(api.EAnd, of(api.ENil, a), of(api.ELess, num(1), of(api.EAdd, input, b))), "a", "b")
	wantNames(t, of(api.EAdd, of(api.EAdd, of(api.EAdd, a, b), c), b), "a", "b", "c", "b")
	wantNames(t, of(api.EAdd, a, of(api.EAdd, b, of(api.EAdd, c, b))), "a", "b", "c", "b")
}

func TestNamesAgainAndAgain(t *testing.T) {
	a := name("a")
	wantNames(t, of(api.EAdd, a, a), "a", "a")
	wantNames(t, of(api.EAnd, of(api.ESame, a, a), of(api.ENil, a)), "a", "a", "a")
	e := a
	for range 10 {
		e = of(api.EMul, e, e)
	}
	wantNames(t, e, slices.Repeat([]string{"a"}, 1024)...)
}

func TestNoNamesWithoutVariables(t *testing.T) {
	for _, e := range eachKind() {
		if len(e.Kids) == 0 && e.Kind != api.EVar {
			wantNames(t, e)
			wantNames(t, not(not(of(api.EAdd, e, e))))
		}
	}
	wantNames(t, api.Expr{})
	wantNames(t, api.Expr{Kind: api.EThis, Name: "a"})
	wantNames(t, api.Expr{Name: "a"})
}

func TestNamesOfWhatMayNotBe(t *testing.T) {
	a, b := name("a"), name("b")
	wantNames(t, name(""), "")
	wantNames(t, of(api.EAdd, name("int"), name("\x00"), name("1")), "int", "\x00", "1")
	for _, kind := range noKinds {
		wantNames(t, of(kind, b, of(kind, a), b), "b", "a", "b")
	}
	wantNames(t, of(api.EInt, a, b), "a", "b")
	wantNames(t, of(api.ENot, a, b, a), "a", "b", "a")
	wantNames(t, api.Expr{Kind: api.EVar, Name: "a", Num: 7, Kids: []api.Expr{b}}, "a", "b")
}

func TestExpressionsThatAreFarTooDeep(t *testing.T) {
	const deep = 1 << 16
	left, right := chain(api.EAdd, deep, false), chain(api.ESub, deep, true)
	nots := name("a")
	for range deep - 1 {
		nots = not(nots)
	}
	for _, e := range []api.Expr{left, right, nots} {
		if expr.Right(e) || expr.Text(e) != "" {
			t.Errorf("an expression of kind %d and %d deep may be", e.Kind, deep)
		}
		if !expr.Same(e, e) || expr.Same(e, e.Kids[0]) {
			t.Errorf("an expression of kind %d and %d deep is not itself, or its own Kid", e.Kind, deep)
		}
	}
	if len(expr.Names(left)) != 0 || len(expr.Names(right)) != 0 {
		t.Errorf("numbers have names")
	}
	if l := expr.Names(nots); !slices.Equal(l, []string{"a"}) {
		t.Errorf("the names behind %d of ! are %d", deep, len(l))
	}
}

// 6.2 Same

func TestSameJustIfAllIsTheSame(t *testing.T) {
	leaves := []api.Expr{num(1), name("a"), name("b"), this}
	l := grown(leaves, api.EAdd, api.ESub, api.ENot)
	l = append(l, num(0), num(2), null, input, name(""), name("A"), name("ab"), not(not(name("a"))),
		api.Expr{}, api.Expr{Kind: 15}, api.Expr{Kind: -1}, api.Expr{Kind: api.EThis, Num: 1}, api.Expr{Kind: api.EThis, Name: "a"},
		api.Expr{Kind: api.EInt, Num: 1, Name: "a"}, api.Expr{Kind: api.EVar, Num: 1, Name: "a"},
		of(api.EAdd), of(api.EAdd, num(1)), of(api.EAdd, num(1), num(1), num(1)), of(api.EThis, this), of(api.ENot, this, this),
		of(api.ENil, this), of(api.ESame, name("a"), this), of(api.ESame, this, name("a")))
	for i, a := range l {
		for j, b := range l {
			wantSame(t, a, clone(b), i == j)
		}
	}
}

func TestSameFarWithin(t *testing.T) {
	deep := func(e api.Expr) api.Expr {
		for i := range 19 {
			e = of(api.EAdd+i%3, num(i), e, not(num(i)))
		}
		return e
	}
	wantSame(t, deep(name("a")), deep(name("a")), true)
	wantSame(t, deep(name("a")), deep(name("b")), false)
	wantSame(t, deep(num(1)), deep(num(2)), false)
	wantSame(t, deep(this), deep(null), false)
	wantSame(t, deep(not(this)), deep(of(api.ENot, this, this)), false)
}

func TestSameOfListsThatAreEmpty(t *testing.T) {
	for _, e := range []api.Expr{num(1), name("a"), this, {}, {Kind: api.EAdd}} {
		x := e
		x.Kids = []api.Expr{}
		wantSame(t, e, x, true)
		wantSame(t, of(api.EAdd, e, x), of(api.EAdd, x, e), true)
		wantSame(t, e, of(e.Kind, api.Expr{}), false)
	}
}

// 6.3

func TestWhatMayBeComesBack(t *testing.T) {
	for _, e := range eachKind() {
		wantBack(t, e)
	}
	for _, n := range []int{0, 1, 9, 10, 77, 100000000, 999999998, 999999999} {
		wantBack(t, num(n))
	}
	wantBack(t, name(strings.Repeat("Z", api.MaxName)))
	leaves := []api.Expr{num(0), name("a"), of(api.ENil, this), of(api.ESame, name("b"), null)}
	kinds := []int{api.EAdd, api.ESub, api.EMul, api.ELess, api.EEqual, api.EAnd, api.ENot}
	for _, e := range grown(grown(leaves, kinds...), kinds...) {
		wantBack(t, e)
	}
}

func TestWhatIsFourDeepComesBack(t *testing.T) {
	l := []api.Expr{name("a")}
	for range 3 {
		l = grown(l, api.ESub, api.ELess, api.EAnd, api.ENot)
	}
	for _, e := range l {
		wantBack(t, e)
	}
}

func TestWhatIsTwentyDeepComesBack(t *testing.T) {
	kinds := []int{api.ENot, api.EAdd, api.ESub, api.EMul, api.ELess, api.EEqual, api.EAnd}
	for _, kind := range kinds {
		wantBack(t, chain(kind, 20, false))
		wantBack(t, chain(kind, 20, true))
		for _, other := range kinds {
			for _, right := range []bool{false, true} {
				// Two kinds take turns, the most ( and ! that there can be within one another among them.
				e := of(api.ENil, name("a"))
				for i := range 18 {
					k := []int{kind, other}[i%2]
					switch {
					case k == api.ENot:
						e = not(e)
					case right:
						e = of(k, this, e)
					default:
						e = of(k, e, this)
					}
				}
				wantBack(t, e)
			}
		}
	}
}

func TestWhatIsGreatComesBack(t *testing.T) {
	kinds := []int{api.EAdd, api.EMul, api.ELess, api.ESub, api.EAnd}
	e := name("a")
	for i := range 10 {
		e = of(kinds[i%len(kinds)], e, e)
	}
	wantBack(t, e)
}

func TestReadingAndWritingAreEachOthersBack(t *testing.T) {
	for s, want := range map[string]string{
		"1+2*3": "1 + 2 * 3", "(1+2)*3": "(1 + 2) * 3", "((1)+((2)))": "1 + 2", "a<(b)": "a < b",
		"!((a))&&(!b)": "!a && !b", "(a<b)<c": "(a < b) < c", "same ( a , null )": "same(a, null)",
		"(a&&b)&&(c&&d)": "a && b && (c && d)", "(a*b)*(c*d)": "a * b * (c * d)", "\ta\n- (1) // 2": "a - 1",
	} {
		l, _ := token.Of(s)
		e, n, f := expr.Parse(l, 0)
		if f != (api.Fault{}) || n != len(l)-1 || expr.Text(e) != want || !expr.Right(e) {
			t.Errorf("%q is read as %v, %d, %v, written %q, want %q", s, e, n, f, expr.Text(e), want)
		}
	}
}

// What is handed in

func TestExpressionsStayAsTheyWere(t *testing.T) {
	spare := name("spare")
	for _, e := range grown([]api.Expr{name("a"), num(1), {}}, api.EAdd, api.ENot, api.ENil, api.ESame) {
		// Room behind the Kids is not to be written into.
		room := append(slices.Clone(e.Kids), spare, spare)
		e.Kids = room[:len(e.Kids)]
		before := clone(e)
		expr.Right(e)
		expr.Text(e)
		expr.Names(e)
		expr.Same(e, e)
		expr.Same(e, before)
		if !alike(e, before) || !alike(room[len(room)-1], spare) || !alike(room[len(room)-2], spare) {
			t.Errorf("%v was %v before", room, before)
		}
	}
}

func TestAnswersHangOnTheExpressionAlone(t *testing.T) {
	e := of(api.EAdd, name("a"), of(api.EMul, name("b"), name("c")))
	l := expr.Names(e)
	l[0], l[1], l[2] = "x", "y", "z"
	_ = append(l, "w")
	wantNames(t, e, "a", "b", "c")
	for range 3 {
		wantText(t, e, "a + b * c")
		wantRight(t, e, true)
	}
	e.Kids[0] = num(7)
	wantText(t, e, "7 + b * c")
	wantNames(t, e, "b", "c")
}

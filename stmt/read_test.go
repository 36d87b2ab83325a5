package stmt_test

import (
	"math"
	"slices"
	"strings"
	"testing"

	"demesne/api"
	"demesne/sample"
	"demesne/stmt"
	"demesne/token"
)

// everyToken is a token of each kind and text, but for names and numbers, of which there are some.
const everyToken = sample.Words + " data Item 0 907 " + sample.Signs

// outside are places where a list of so many tokens has none.
func outside(size int) []int {
	return []int{math.MinInt, math.MinInt + 1, -77, -2, -1, size, size + 1, size + 77, math.MaxInt - 1, math.MaxInt}
}

func tokensOf(t *testing.T, text string) []api.Token {
	t.Helper()
	l, f := token.Of(text)
	if f != (api.Fault{}) {
		t.Fatalf("token.Of(%.120q) has the fault %v", text, f)
	}
	return l
}

// wantRead asks that a statement is read from the text's token at on, up to the one at next.
func wantRead(t *testing.T, text string, at, nest int, want api.Stmt, next int) {
	t.Helper()
	s, n, f := stmt.Parse(tokensOf(t, text), at, params, nest)
	if f != (api.Fault{}) || n != next || !alike(s, want) {
		t.Errorf("Parse(%.120q, %d, %d) = %s, %d, %v, want %s, %d", text, at, nest, told(s), n, f, told(want), next)
	}
}

// wantWhole asks that a text is one statement, wherever those in it stand.
func wantWhole(t *testing.T, text string, want api.Stmt) {
	t.Helper()
	l := tokensOf(t, text)
	s, n, f := stmt.Parse(l, 0, params, 0)
	if f != (api.Fault{}) || n != len(l)-1 || !alike(bare(s), want) {
		t.Errorf("Parse(%.120q) = %s, %d, %v, want %s, %d", text, told(s), n, f, told(want), len(l)-1)
	}
}

// wantFault asks that what is read from the text's token at on has a fault at a byte.
func wantFault(t *testing.T, text string, at, nest int, err api.Errno, where int) {
	t.Helper()
	s, n, f := stmt.Parse(tokensOf(t, text), at, params, nest)
	if f != (api.Fault{Err: err, At: where}) || n != 0 || !alike(s, api.Stmt{}) {
		t.Errorf("Parse(%.120q, %d, %d) = %s, %d, %v, want fault %d at %d", text, at, nest, told(s), n, f, err, where)
	}
}

// wantFaultAt asks that a text is no statement because of what stands where the mark ^ does.
func wantFaultAt(t *testing.T, marked string, err api.Errno) {
	t.Helper()
	where := strings.Index(marked, "^")
	text := marked[:where] + marked[where+1:]
	wantFault(t, text, 0, 0, err, where)
	wantFault(t, "; "+text, 1, 0, err, where+2)
	wantNoBlock(t, "{"+text, 0, 0, err, where+1)
	for _, ahead := range []string{"if (a) {", "if (a) {} else { x = 1; ", "while (a) { x = new Item; "} {
		wantFault(t, ahead+text, 0, 0, err, where+len(ahead))
	}
}

// wantBlock asks that statements are read from the text's token at on, up to the one at next.
func wantBlock(t *testing.T, text string, at, nest, next int, want ...api.Stmt) {
	t.Helper()
	l, n, f := stmt.Block(tokensOf(t, text), at, params, nest)
	if f != (api.Fault{}) || n != next || !slices.EqualFunc(l, want, alike) {
		t.Errorf("Block(%.120q, %d, %d) = %s, %d, %v, want %s, %d", text, at, nest, told(l), n, f, told(want), next)
	}
}

// wantNoBlock asks that the statements read from the text's token at on have a fault at a byte.
func wantNoBlock(t *testing.T, text string, at, nest int, err api.Errno, where int) {
	t.Helper()
	l, n, f := stmt.Block(tokensOf(t, text), at, params, nest)
	if f != (api.Fault{Err: err, At: where}) || n != 0 || len(l) != 0 {
		t.Errorf("Block(%.120q, %d, %d) = %s, %d, %v, want fault %d at %d", text, at, nest, told(l), n, f, err, where)
	}
}

// 8.1 Parse

func TestReadExampleOfTheChapter(t *testing.T) {
	text := "if (a < 1) { x = this; } else { return; }"
	inner := set("x", this)
	inner.At = 13
	other := api.Stmt{Kind: api.SReturn, At: 32}
	wantRead(t, text, 0, 0, if0(of(api.ELess, name("a"), num(1)), list(inner), list(other)), 17)
}

func TestReadEachKind(t *testing.T) {
	for text, s := range eachKind() {
		wantWhole(t, text, s)
		wantWhole(t, strings.Join(strings.Fields(text), " "), s)
		wantWhole(t, "while(1){"+text+text+"}", while(num(1), s, s))
	}
}

func TestReadWithMoreThanIsWritten(t *testing.T) {
	wantWhole(t, "x=((y));", set("x", name("y")))
	wantWhole(t, "x = (this);", set("x", this))
	wantWhole(t, "return (1);", back(num(1)))
	wantWhole(t, "y.m((1),(a+b));", call("", "y", "m", num(1), of(api.EAdd, name("a"), name("b"))))
	wantWhole(t, "if ((a)) { } else { }", if0(name("a"), nil, nil))
	wantWhole(t, "if (a) { x = 1; } else { }", if0(name("a"), list(set("x", num(1))), nil))
	wantWhole(t, "while (((a) && b)) { }", while(of(api.EAnd, name("a"), name("b"))))
}

func TestAStatementEndsBehindItsLastSign(t *testing.T) {
	for text, s := range eachKind() {
		n := len(tokensOf(t, text)) - 1
		for _, w := range strings.Fields(everyToken) {
			if w == "else" && s.Kind == api.SIf && len(s.Else) == 0 {
				wantFault(t, text+w, 0, 0, api.ErrToken, len(text)+4)
				continue
			}
			got, next, f := stmt.Parse(tokensOf(t, text+" "+w+" x"), 0, params, 0)
			if f != (api.Fault{}) || next != n || !alike(bare(got), s) {
				t.Errorf("ahead of %s %q is read as %s, %d, %v", w, text, told(got), next, f)
			}
		}
	}
	wantRead(t, "return; return;", 0, 0, back(api.Expr{}), 2)
	wantRead(t, "if (1) { } else { } else { }", 0, 0, if0(num(1), nil, nil), 9)
	wantRead(t, "while (1) { } else { }", 0, 0, while(num(1)), 6)
}

func TestReadFromATokenOn(t *testing.T) {
	text := "x = y . m ( a ) ; z . f = x ; return this ;"
	at := func(s api.Stmt, n int) api.Stmt { s.At = n; return s }
	wantRead(t, text, 0, 0, call("x", "y", "m", name("a")), 9)
	wantRead(t, text, 2, 0, at(call("", "y", "m", name("a")), 4), 9)
	wantRead(t, text, 9, 0, at(put("z", "f", name("x")), 18), 15)
	wantRead(t, text, 11, 0, at(set("f", name("x")), 22), 15)
	wantRead(t, text, 15, 0, at(back(this), 30), 18)
	for at, where := range map[int]int{1: 2, 3: 6, 4: 10, 5: 10, 6: 14, 7: 14, 8: 16, 10: 20, 12: 24, 13: 28, 14: 28, 16: 42, 17: 42, 18: 43} {
		wantFault(t, text, at, 0, api.ErrToken, where)
	}
}

func TestWhereStatementsStand(t *testing.T) {
	text := "  if (a) {\n\treturn; // first\n\twhile (1) { x = y.f; }\n} else {\n\tdelete x; }"
	s, _, f := stmt.Parse(tokensOf(t, text), 0, params, 0)
	want := []int{2, strings.Index(text, "return"), strings.Index(text, "while"), strings.Index(text, "x = y"), strings.Index(text, "delete")}
	if f != (api.Fault{}) || !slices.Equal(starts(list(s)), want) {
		t.Errorf("the statements stand at %v, %v, want %v", starts(list(s)), f, want)
	}
}

func TestAPartThatLacks(t *testing.T) {
	for _, marked := range []string{
		"^= y;", "x ^;", "x = ^;", "x = y^", "x = y. ^;", "x = ^.f;", "y. ^= 1;", "^.f = 1;", "y.f ^;", "y.f = ^;", "y.f ^1;", "x = y. ^(1);", "y. ^(1);", "^.m();",
		"x = y.m ^1);", "x = y.m(1^;", "x = y.m(1, ^);", "y.m(1, 2 ^3);", "x = new ^;", "x = new rep ^;", "x ^new Item;", "x = cast ^;", "x = cast Item ^;", "x = cast rep Item ^;", "x = cast rep ^;",
		"x = move ^;", "x ^move y;", "delete ^;", "if ^a) {}", "if (^) {}", "if (a ^{}", "if (a) ^}", "if (a) ^x = 1; }", "if (a) {} else ^}", "while ^a) {}", "while (^) {}", "while (a ^{}", "while (a) ^}", "while (a) ^x = 1; }",
		"^else {}", "if (a) {} else ^if (a) {}", "^;", "^{}", "^(x) = 1;", "^1 = x;",
	} {
		wantFaultAt(t, marked, api.ErrToken)
	}
}

func TestASemicolonThatLacks(t *testing.T) {
	for text := range eachKind() {
		if strings.Contains(text, "{") {
			continue
		}
		lacking := strings.TrimSuffix(text, ";\n")
		for _, behind := range []string{"^", "^}", "^return;", "^= 1;", "^) ;"} {
			wantFaultAt(t, lacking+" "+behind, api.ErrToken)
		}
	}
	wantFaultAt(t, "x = y ^z = 1;", api.ErrToken)
}

func TestThisWhereItMayStand(t *testing.T) {
	wantWhole(t, "x = this.f;", get("x", "this", "f"))
	wantWhole(t, "this.f = this;", put("this", "f", this))
	wantWhole(t, "x = this.m(this);", call("x", "this", "m", this))
	wantWhole(t, "this.m(this, this);", call("", "this", "m", this, this))
	for _, marked := range []string{
		"this ^= x;", "x = move ^this;", "delete ^this;", "this ^;", "this ^(1);", "this. ^this = 1;", "x = y. ^this;", "x = this. ^this;", "x = this.f ^.g;", "x = new ^this;", "x = new rep ^this;", "x = cast ^this;", "this ^x = 1;",
	} {
		wantFaultAt(t, marked, api.ErrToken)
	}
	for _, w := range strings.Fields(everyToken) {
		if w != "." {
			wantFault(t, "this "+w+" f = x;", 0, 0, api.ErrToken, 5)
		}
		if w != "data" && w != "Item" {
			wantFault(t, "x = move "+w+" ;", 0, 0, api.ErrToken, 9)
			wantFault(t, "delete "+w+" ;", 0, 0, api.ErrToken, 7)
			wantFault(t, "this . "+w+" = x;", 0, 0, api.ErrToken, 7)
			wantFault(t, "x = this . "+w+" ;", 0, 0, api.ErrToken, 11)
		}
	}
}

func TestArguments(t *testing.T) {
	args := []string{"1", "b", "this", "null", "!input"}
	for n := range 6 {
		text := ".m(" + strings.Join(args[:n], ",") + ");"
		wantWhole(t, "y"+text, call("", "y", "m", five()[:n]...))
		wantWhole(t, "this"+text, call("", "this", "m", five()[:n]...))
		wantWhole(t, "x=y"+text, call("x", "y", "m", five()[:n]...))
		wantWhole(t, "x=this"+text, call("x", "this", "m", five()[:n]...))
	}
}

func TestASixthArgument(t *testing.T) {
	for _, ahead := range []string{"y.m(1, 2, 3, 4, 5, ^", "x = y.m(a, b, c, d, e, ^", "this.m((1), !2, nil(this), same(a, b), 1 + 2 * (3), ^"} {
		wantFaultAt(t, ahead, api.ErrLarge)
		for _, w := range strings.Fields(everyToken) {
			wantFaultAt(t, ahead+w, api.ErrLarge)
			wantFaultAt(t, ahead+w+" ) ;", api.ErrLarge)
		}
	}
	wantFaultAt(t, "y.m(1, 2, 3, 4, 5 ^6);", api.ErrToken)
	wantFaultAt(t, "y.m(1, 2, 3, 4, 5, ^6, 7, );", api.ErrLarge)
	wantFaultAt(t, "y.m(1, 2, 3, 4, ^, 6);", api.ErrToken)
	wantFaultAt(t, "y.m(1, 2, 3, nil(^1), 5, 6);", api.ErrToken)
	wantFaultAt(t, "y.m(1, 2, 3, 4, 5, ^nil(1));", api.ErrLarge)
	// Each call has five of its own.
	wantBlock(t, "{y.m(1,b,this,null,!input);y.m(1);}", 0, 0, 25, placed(call("", "y", "m", five()...), 1), placed(call("", "y", "m", num(1)), 27))
}

// placed is a statement that stands at a place.
func placed(s api.Stmt, at int) api.Stmt {
	s.At = at
	return s
}

func TestCommasTooFewOrTooMany(t *testing.T) {
	for _, marked := range []string{"y.m(^,);", "y.m(^,1);", "y.m(1,^);", "y.m(1,^,2);", "y.m(1 ^2);", "x = y.m(1 ^this);", "x = y.m(a^.b);"} {
		wantFaultAt(t, marked, api.ErrToken)
	}
}

func TestWhatStandsBehindTheSign(t *testing.T) {
	wantWhole(t, "x = y;", set("x", name("y")))
	wantWhole(t, "x = y + z;", set("x", of(api.EAdd, name("y"), name("z"))))
	wantWhole(t, "x = this == y;", set("x", of(api.EEqual, this, name("y"))))
	wantWhole(t, "x = same(this, y);", set("x", of(api.ESame, this, name("y"))))
	wantWhole(t, "x = 0 - 1;", set("x", of(api.ESub, num(0), num(1))))
	for _, marked := range []string{
		"x = y.f ^+ 1;", "x = this.f ^.g;", "x = y.f ^.g;", "x = 1^.f;", "x = (y)^.f;", "x = null^.f;", "x = y + z^.f;", "x = y^();", "x = y ^z;", "x = y.m() ^.f;", "x = y.m() ^+ 1;", "x = y ^= z;", "x = (y^.f);",
		"y.f = ^new Item;", "y.f = ^move x;", "y.f = ^cast Item x;", "y.f = x^.g;", "y.f = x^(1);", "y.f = this^.g;", "y.f ^.g = 1;", "y.m() ^= 1;", "y.m() ^.f = 1;", "x = new^;", "x = 1 + ^new Item;", "x = ^delete y;", "x = ^return;",
		"return ^new Item;", "return x^.f;", "return ^move x;", "if (^new Item) {}", "if (x^.f) {}", "while (x^.m()) {}", "y.m(^new Item);", "y.m(^move x);", "y.m(x^.f);",
	} {
		wantFaultAt(t, marked, api.ErrToken)
	}
}

func TestACastOfEachToken(t *testing.T) {
	kinds := map[string]api.Expr{"data": name("data"), "Item": name("Item"), "this": this, "null": null}
	for _, w := range strings.Fields(everyToken) {
		for ahead, x := range map[string]api.Type{"x = cast rep Item ": sample.Object(rep, "Item"), "x = cast List<any> ": sample.Object(hole, "List", any0), "x = cast unique Item<data, rep> ": sample.Object(unique, "Item", data, rep)} {
			e, is := kinds[w]
			switch {
			case is:
				wantWhole(t, ahead+w+";", cast("x", x, e))
			case w != "<" || strings.Contains(ahead, "<"):
				wantFaultAt(t, ahead+"^"+w+" ;", api.ErrToken)
				wantFaultAt(t, ahead+"^"+w+" y ;", api.ErrToken)
			}
			if w != ";" {
				wantFaultAt(t, ahead+"y ^"+w+" ;", api.ErrToken)
				wantFaultAt(t, ahead+"this ^"+w+" z ;", api.ErrToken)
			}
		}
	}
	for _, marked := range []string{"x = cast rep Item ^(y);", "x = cast rep Item ^!y;", "x = cast rep Item ^nil(y);", "x = cast rep Item ^same(y, z);", "x = cast rep Item ^7;", "x = cast rep Item ^input;", "x = cast rep Item y ^+ z;", "x = cast rep Item this^.f;", "x = cast rep Item y^.m();", "x = cast rep Item ^!!!!!!!!!!!!!!!!!!!!!!!y;"} {
		wantFaultAt(t, marked, api.ErrToken)
	}
}

func TestATypeAheadOfANameOrNot(t *testing.T) {
	wantWhole(t, "x = new data Item;", made("x", sample.Object(data, "Item")))
	wantWhole(t, "x = new data;", made("x", sample.Object(hole, "data")))
	wantWhole(t, "x = cast data Item;", cast("x", sample.Object(hole, "data"), name("Item")))
	wantWhole(t, "x = cast data Item y;", cast("x", sample.Object(data, "Item"), name("y")))
	wantWhole(t, "x = cast data Item this;", cast("x", sample.Object(data, "Item"), this))
	wantWhole(t, "x = cast data this;", cast("x", sample.Object(hole, "data"), this))
	wantWhole(t, "x = cast other y;", cast("x", sample.Object(hole, "other"), name("y")))
	wantWhole(t, "x = cast data Item<key> null;", cast("x", sample.Object(data, "Item", key), null))
	wantFaultAt(t, "x = new ^other Item;", api.ErrOwner)
	wantFaultAt(t, "x = new data Item ^y;", api.ErrToken)
	wantFaultAt(t, "x = cast ^other Item y;", api.ErrOwner)
	wantFaultAt(t, "x = cast rep Item Item ^y;", api.ErrToken)
}

func TestVoidAndInt(t *testing.T) {
	for _, w := range []string{"void", "int"} {
		for _, behind := range append(strings.Fields(everyToken), "") {
			wantFaultAt(t, "x = new ^"+w+" "+behind, api.ErrToken)
			wantFaultAt(t, "x = cast ^"+w+" "+behind+" ;", api.ErrToken)
		}
		wantFaultAt(t, "x = cast rep ^"+w+" y;", api.ErrToken)
	}
}

func TestTheFaultsOfExpressionsAndTypes(t *testing.T) {
	full := "1" + strings.Repeat("+1", 19)
	for _, ahead := range []string{"x = ", "y.f = ", "y.m(", "x = y.m(1, ", "return ", "if (", "while ("} {
		wantFaultAt(t, ahead+strings.Repeat("(", 20)+"^(1", api.ErrDeep)
		wantFaultAt(t, ahead+full+" ^+ 1;", api.ErrDeep)
		wantFaultAt(t, ahead+"^"+strings.Repeat("!", 20)+"1;", api.ErrDeep)
		wantFaultAt(t, ahead+"1 + ^;", api.ErrToken)
		wantFaultAt(t, ahead+"nil(^null);", api.ErrToken)
		wantFaultAt(t, ahead+"(a < b ^< c);", api.ErrToken)
		wantFaultAt(t, ahead+"^,", api.ErrToken)
	}
	for _, ahead := range []string{"x = new ", "x = cast "} {
		for marked, err := range map[string]api.Errno{
			"Item<^>": api.ErrToken, "Item<^Item> y;": api.ErrOwner, "Item<^unique> y;": api.ErrToken, "Item<rep ^key> y;": api.ErrToken, "Item<rep, peer, any, ^key> y;": api.ErrArity,
			"Item<rep, peer, any, ^x> y;": api.ErrOwner, "rep ^int;": api.ErrToken, "^;": api.ErrToken, "^7;": api.ErrToken, "^null;": api.ErrToken, "^x Item<rep> y;": api.ErrOwner, "Item<rep^;": api.ErrToken,
		} {
			wantFaultAt(t, ahead+marked, err)
		}
	}
}

func TestOfTwoFaultsTheFirst(t *testing.T) {
	for marked, err := range map[string]api.Errno{
		"x = 1 + ^) new int": api.ErrToken, "x = new ^other Item<7>": api.ErrOwner, "x = new Item<^other> (": api.ErrOwner, "x = cast Item<^7> +": api.ErrToken, "x = cast ^int 7": api.ErrToken,
		"y.m(nil(^1), (": api.ErrToken, "y.m(1, 2, 3, 4, 5, ^nil(1), )": api.ErrLarge, "x ^1 new int": api.ErrToken, "if (^) { x = new int; }": api.ErrToken, "if (a) { x = new ^int; } else ( }": api.ErrToken,
		"if (a) { x = new ^other Item; y.m(1,2,3,4,5,6); }": api.ErrOwner, "while (a) { y.m(1,2,3,4,5,^6); x = new other Item; }": api.ErrLarge, "x = new ^void Item<other> int": api.ErrToken,
		"return ((((((((((((((((((((^((;": api.ErrDeep, "return ((((((((((((((((((((^;": api.ErrToken,
	} {
		wantFaultAt(t, marked, err)
	}
}

func TestReturns(t *testing.T) {
	for text, e := range map[string]api.Expr{"return;": {}, "return 0;": num(0), "return x;": name("x"), "return null;": null, "return nil(x) && input < 2;": of(api.EAnd, of(api.ENil, name("x")), of(api.ELess, input, num(2)))} {
		wantWhole(t, text, back(e))
	}
	for _, marked := range []string{"return ^", "return ^}", "return ^return;", "return 1 ^2;", "return x ^= 1;", "return ^,;"} {
		wantFaultAt(t, marked, api.ErrToken)
	}
}

func TestAnElse(t *testing.T) {
	a, one := name("a"), set("x", num(1))
	wantWhole(t, "if (a) { }", if0(a, nil, nil))
	wantWhole(t, "if (a) { x = 1; }", if0(a, list(one), nil))
	wantWhole(t, "if (a) { } else { x = 1; x = 1; }", if0(a, nil, list(one, one)))
	wantWhole(t, "if (a) { x = 1; } else { x = 1; }", if0(a, list(one), list(one)))
	wantWhole(t, "if (a) { if (a) { } else { x = 1; } }", if0(a, list(if0(a, nil, list(one))), nil))
	wantWhole(t, "if (a) { if (a) { } } else { x = 1; }", if0(a, list(if0(a, nil, nil)), list(one)))
	wantWhole(t, "if (a) { } else { if (a) { } else { } }", if0(a, nil, list(if0(a, nil, nil))))
	wantFaultAt(t, "if (a) {} else ^", api.ErrToken)
	wantFaultAt(t, "if (a) {} else { ^else {} }", api.ErrToken)
	wantFaultAt(t, "if (a) { x = 1; ^else { }", api.ErrToken)
}

// 8.1: how deep they may be nested

// openings are what stands ahead of a statement that is in another one.
var openings = []string{"while(1){", "if(1){", "if(1){}else{", "if(1){x=1;"}

func TestStatementsNestedTwentyDeepAtMost(t *testing.T) {
	for _, open := range openings {
		for _, nest := range []int{math.MinInt, -77, -1, 0, 1, 2, 10, 18, 19} {
			most := 20 - max(nest, 0)
			for deep := 1; deep <= most; deep++ {
				text := strings.Repeat(open, deep-1) + "return;" + strings.Repeat("}", deep-1)
				l := tokensOf(t, text)
				s, n, f := stmt.Parse(l, 0, params, nest)
				if f != (api.Fault{}) || n != len(l)-1 || !stmt.Right(s, 0) {
					t.Errorf("Parse(%q, 0, %d) = %s, %d, %v", text, nest, told(s), n, f)
				}
			}
			for _, inner := range append(strings.Fields(everyToken), "", "x = 1;", "x = new int;") {
				if inner != "}" {
					wantFault(t, strings.Repeat(open, most)+inner, 0, nest, api.ErrDeep, most*len(open)-deeper(open))
				}
			}
		}
	}
	wantFault(t, strings.Repeat("if(1){", 2000), 0, 0, api.ErrDeep, 120)
}

// deeper is how much sooner a statement stands too deep that an opening has itself.
func deeper(open string) int {
	if strings.HasSuffix(open, ";") {
		return len("x=1;")
	}
	return 0
}

func TestNothingInTheDeepestOne(t *testing.T) {
	for _, open := range openings[:3] {
		text := strings.Repeat(open, 20) + strings.Repeat("}", 20)
		l := tokensOf(t, text)
		if s, n, f := stmt.Parse(l, 0, params, 0); f != (api.Fault{}) || n != len(l)-1 || stmt.Size(s) != 20 || !stmt.Right(s, 0) {
			t.Errorf("Parse(%q) = %s, %d, %v", text, told(s), n, f)
		}
	}
	wantRead(t, "if (1) { } else { }", 0, 19, if0(num(1), nil, nil), 9)
	wantFault(t, "if (1) { x = 1; } else { }", 0, 19, api.ErrDeep, 9)
	wantFault(t, "if (1) { } else { ; }", 0, 19, api.ErrDeep, 18)
	wantFault(t, "while (1) {", 0, 19, api.ErrDeep, 11)
}

func TestNestedInTwentyOrMore(t *testing.T) {
	for _, nest := range []int{20, 21, 77, math.MaxInt - 1, math.MaxInt} {
		for _, w := range append(strings.Fields(everyToken), "", "x = 1;", "return;", "if (1) { }") {
			wantFault(t, w, 0, nest, api.ErrDeep, 0)
			wantFault(t, "x "+w, 1, nest, api.ErrDeep, 2)
			wantFault(t, w, -1, nest, api.ErrDeep, len(w))
			if w != "}" {
				wantNoBlock(t, "{ "+w, 0, nest, api.ErrDeep, 2)
			}
		}
		wantBlock(t, "{ }", 0, nest, 2)
		wantNoBlock(t, "}", 0, nest, api.ErrToken, 0)
		wantNoBlock(t, "", 0, nest, api.ErrToken, 0)
	}
}

func TestWhatStandsBesideIsNoDeeper(t *testing.T) {
	deep := strings.Repeat("while(1){", 19) + "return;" + strings.Repeat("}", 19)
	l, n, f := stmt.Block(tokensOf(t, "{"+deep+deep+deep+"}"), 0, params, 0)
	if f != (api.Fault{}) || len(l) != 3 || n != 3*(19*6+2)+2 {
		t.Errorf("three statements beside one another are %s, %d, %v", told(l), n, f)
	}
	wantNoBlock(t, "{"+deep+"x=1;"+"while(1){"+deep+"}}", 0, 0, api.ErrDeep, 1+len(deep)+4+9+19*9)
	inner := strings.Repeat("while(1){", 18) + "return;" + strings.Repeat("}", 18)
	s, _, f := stmt.Parse(tokensOf(t, "if(1){"+inner+inner+"}else{"+inner+inner+"}"), 0, params, 0)
	if f != (api.Fault{}) || stmt.Size(s) != 4*19+1 {
		t.Errorf("four statements in an if are %s, %v", told(s), f)
	}
}

// 8.1 Block

func TestBlocks(t *testing.T) {
	for _, nest := range []int{math.MinInt, -1, 0, 1, 19} {
		wantBlock(t, "{}", 0, nest, 2)
		wantBlock(t, "{ x = 1; }", 0, nest, 6, placed(set("x", num(1)), 2))
		wantBlock(t, "{ x = y.f; delete x; return; } }", 0, nest, 13, placed(get("x", "y", "f"), 2), placed(deleted("x"), 11), placed(back(api.Expr{}), 21))
		wantBlock(t, "; { } {", 1, nest, 3)
	}
	for text, s := range eachKind() {
		text = strings.Join(strings.Fields(text), " ")
		n := len(tokensOf(t, text)) - 1
		l, next, f := stmt.Block(tokensOf(t, "x { "+text+" "+text+" } y"), 1, params, 0)
		if f != (api.Fault{}) || next != 3+2*n || !slices.EqualFunc(each(l, bare), list(s, s), alike) || l[0].At != 4 || l[1].At != 5+len(text) {
			t.Errorf("twice %q is read as %s, %d, %v", text, told(l), next, f)
		}
	}
}

func TestNoBlocks(t *testing.T) {
	for _, nest := range []int{-1, 0, 19} {
		for _, w := range strings.Fields(everyToken) {
			if w != "{" {
				wantNoBlock(t, w, 0, nest, api.ErrToken, 0)
				wantNoBlock(t, w+" }", 0, nest, api.ErrToken, 0)
			}
		}
		wantNoBlock(t, "", 0, nest, api.ErrToken, 0)
		wantNoBlock(t, "{", 0, nest, api.ErrToken, 1)
		wantNoBlock(t, "{ x = 1;", 0, nest, api.ErrToken, 8)
		wantNoBlock(t, "{ x = 1; ;", 0, nest, api.ErrToken, 9)
		wantNoBlock(t, "{ { } }", 0, nest, api.ErrToken, 2)
		wantNoBlock(t, "{ x = 1 }", 0, nest, api.ErrToken, 8)
		wantNoBlock(t, "{ int x; }", 0, nest, api.ErrToken, 2)
		wantNoBlock(t, "{ Item x; }", 0, nest, api.ErrToken, 7)
		wantNoBlock(t, "{ x = 1; { }", 0, nest, api.ErrToken, 9)
	}
	wantNoBlock(t, "{ if (1) { x = 1; }", 0, 0, api.ErrToken, 19)
	wantNoBlock(t, "{ if (1) { x = 1; }", 0, 19, api.ErrDeep, 11)
	wantNoBlock(t, "{ while (1) { }", 0, 19, api.ErrToken, 15)
}

// No tokens, and places outside

func TestBehindTheLastTokenAndAheadOfTheFirstStandsAnEnd(t *testing.T) {
	for text, size := range map[string]int{"x = 1; // c": 5, "{ } // c": 3, "return;": 3, "": 1} {
		for _, at := range append(outside(size), size-1) {
			wantFault(t, text, at, 0, api.ErrToken, len(text))
			wantFault(t, text, at, 20, api.ErrDeep, len(text))
			wantNoBlock(t, text, at, 0, api.ErrToken, len(text))
			wantNoBlock(t, text, at, 20, api.ErrToken, len(text))
		}
	}
}

func TestNoTokensAtAll(t *testing.T) {
	for _, l := range [][]api.Token{nil, {}} {
		for _, at := range outside(0) {
			for _, nest := range numbers {
				want := api.Fault{Err: api.ErrToken}
				if nest >= 20 {
					want.Err = api.ErrDeep
				}
				if s, n, f := stmt.Parse(l, at, params, nest); f != want || n != 0 || !alike(s, api.Stmt{}) {
					t.Errorf("the statement of no tokens at %d is %s, %d, %v", at, told(s), n, f)
				}
				if b, n, f := stmt.Block(l, at, params, nest); f != (api.Fault{Err: api.ErrToken}) || n != 0 || len(b) != 0 {
					t.Errorf("the statements of no tokens at %d are %s, %d, %v", at, told(b), n, f)
				}
			}
		}
	}
}

func TestTokensWithoutAnEnd(t *testing.T) {
	l := tokensOf(t, "{ x = cast data Item this; }")
	for n, where := range []int{1: 0, 2: 2, 3: 4, 4: 6, 5: 11, 6: 16, 7: 21, 8: 25} {
		if _, _, f := stmt.Block(l[:n], 0, params, 0); n > 0 && f != (api.Fault{Err: api.ErrToken, At: where}) {
			t.Errorf("Block of the first %d of %v has the fault %v, want one at %d", n, l, f, where)
		}
	}
	if b, n, f := stmt.Block(l[:9], 0, params, 0); f != (api.Fault{}) || n != 9 || len(b) != 1 {
		t.Errorf("the statements are %s, %d, %v", told(b), n, f)
	}
	if s, n, f := stmt.Parse(l[:8], 1, params, 0); f != (api.Fault{}) || n != 8 || !alike(s, placed(cast("x", sample.Object(data, "Item"), this), 2)) {
		t.Errorf("the statement is %s, %d, %v", told(s), n, f)
	}
}

// What is handed in

func TestTokensAndNamesStay(t *testing.T) {
	spare := api.Token{Kind: api.TName, Text: "spare", At: 77}
	names := append(slices.Clone(params), "room", "room")[:2]
	for _, text := range append([]string{"", "{", "x = new other Item;", "y.m(1,2,3,4,5,6", strings.Repeat("if(1){", 30)}, texts...) {
		room := append(tokensOf(t, text), spare, spare, spare)
		before := slices.Clone(room)
		l := room[:len(room)-3]
		for at := -2; at < len(l)+2; at++ {
			stmt.Parse(l, at, names, 0)
			stmt.Block(l, at, names, 19)
		}
		if !slices.Equal(room, before) {
			t.Errorf("%v was %v before", room, before)
		}
	}
	if !slices.Equal(names[:4], []string{"data", "key", "room", "room"}) {
		t.Errorf("the parameters have become %q", names[:4])
	}
}

func TestStatementsStay(t *testing.T) {
	for text, s := range eachKind() {
		u := while(num(1), s, clone(s))
		u.Else = append(make([]api.Stmt, 0, 3), s)
		before := clone(u)
		for _, x := range []api.Stmt{s, u, while(num(1), s)} {
			stmt.Right(x, 2)
			stmt.Text(x, params, 3)
			stmt.Size(x)
			stmt.Same(x, u)
			stmt.Same(u, x)
		}
		if !alike(u, before) || !slices.EqualFunc(u.Else[:3], list(s, api.Stmt{}, api.Stmt{}), alike) {
			t.Errorf("%q has become %s", text, told(u))
		}
	}
	if !slices.Equal(params, []string{"data", "key"}) {
		t.Errorf("the parameters have become %q", params)
	}
}

func TestAnswersShareNothing(t *testing.T) {
	text := "{ if (a) { x = y.m(1, a + b); } else { y.m(this); } if (a) { x = cast Item y; } }"
	l := tokensOf(t, text)
	first, _, _ := stmt.Block(l, 0, params, 0)
	want := each(first, clone)
	second, _, _ := stmt.Block(l, 0, params, 0)
	for i := range first {
		first[i].Else = append(first[i].Else, set("z", this))
		first[i].Body[0].Args = append(first[i].Body[0].Args, null)
		first[i].Body[0].X, first[i].E.Name = "z", "z"
	}
	first[0].Body[0].Args[0], first[0].Body[0].Args[1].Kids[0] = null, null
	for i := range l {
		l[i] = api.Token{}
	}
	if !slices.EqualFunc(second, want, alike) {
		t.Errorf("another answer has become %s", told(second))
	}
	if len(first[1].E.Kids) != 0 || len(first[0].Else) != 2 || first[0].Else[0].Args[0].Kind != api.EThis {
		t.Errorf("another list of the answer has become %s", told(first))
	}
}

func TestAnswersHangOnTheArgumentsAlone(t *testing.T) {
	for range 3 {
		wantWhole(t, "x = new data Item;", made("x", sample.Object(data, "Item")))
		wantFault(t, "x = new int;", 0, 0, api.ErrToken, 8)
		wantFault(t, "x = 1;", 0, 20, api.ErrDeep, 0)
		wantBlock(t, "{ }", 0, 0, 2)
	}
}

func TestTokensThatNoTextHas(t *testing.T) {
	kinds := []int{math.MinInt, -1, api.TEnd, api.TName, api.TNumber, api.TWord, api.TSign, 5, math.MaxInt}
	texts := []string{"", "x", "1", "{", "}", "(", ")", ".", "=", ";", ",", "this", "if", "return", "cast", "\x00"}
	var all []api.Token
	for _, k := range kinds {
		for _, s := range texts {
			all = append(all, api.Token{Kind: k, Text: s, At: -len(all)})
		}
	}
	for _, a := range all {
		for _, b := range all {
			l := []api.Token{a, b, a, b, b, a, a}
			stmt.Parse(l, 0, params, 0)
			stmt.Block(l, 0, params, 0)
		}
		l := slices.Repeat([]api.Token{a}, 1000)
		stmt.Parse(l, 0, params, 0)
		stmt.Block(l, 0, params, 0)
	}
}

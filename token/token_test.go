package token_test

import (
	"regexp"
	"slices"
	"strings"
	"testing"

	"demesne/api"
	"demesne/token"
)

// words are the words of the language, as the chapter of package word lists them.
const words = "class extends rep peer world any unique pure void int if else while return new move delete this null input nil same cast"

// signs are all signs, as the chapter lists them.
const signs = "{ } ( ) < > , ; . = + - * ! == &&"

func tok(kind int, text string, at int) api.Token {
	return api.Token{Kind: kind, Text: text, At: at}
}

func wantTokens(t *testing.T, text string, want ...api.Token) {
	t.Helper()
	if l, f := token.Of(text); f != (api.Fault{}) || !slices.Equal(l, want) {
		t.Errorf("Of(%.60q) = %v, %v, want %v and no fault", text, l, f, want)
	}
}

func wantFault(t *testing.T, text string, err api.Errno, at int) {
	t.Helper()
	if l, f := token.Of(text); f != (api.Fault{Err: err, At: at}) || len(l) != 0 {
		t.Errorf("Of(%.60q) = %v, %v, want fault %d at %d and no token", text, l, f, err, at)
	}
}

// tokens tells the tokens of a text that has no fault.
func tokens(t *testing.T, text string) []api.Token {
	t.Helper()
	l, f := token.Of(text)
	if f != (api.Fault{}) {
		t.Fatalf("Of(%.60q) has the fault %v", text, f)
	}
	return l
}

var (
	leftOut    = regexp.MustCompile(`^(?:[\t\n\r ]|//[^\n]*(?:\n|$))*`)
	letters    = regexp.MustCompile(`^[a-zA-Z][a-zA-Z0-9]*`)
	digits     = regexp.MustCompile(`^[0-9]+`)
	goodNumber = regexp.MustCompile(`^(?:0|[1-9][0-9]{0,8})$`)
	longest    = regexp.MustCompile(`^(?:==|&&|[{}()<>,;.=+*!-])`)
)

// model tells the tokens and the fault of a text of at most 16384 bytes, straight from the chapter.
func model(text string) ([]api.Token, api.Fault) {
	var l []api.Token
	at := 0
	for {
		at += len(leftOut.FindString(text[at:]))
		rest := text[at:]
		if rest == "" {
			return append(l, tok(api.TEnd, "", at)), api.Fault{}
		}
		kind, s := api.TSign, longest.FindString(rest)
		if n := letters.FindString(rest); n != "" {
			kind, s = api.TName, n
			if slices.Contains(strings.Fields(words), n) {
				kind = api.TWord
			}
		} else if n := digits.FindString(rest); n != "" {
			kind, s = api.TNumber, n
		}
		switch {
		case s == "":
			return nil, api.Fault{Err: api.ErrByte, At: at}
		case kind == api.TName && len(s) > 20, kind == api.TNumber && !goodNumber.MatchString(s):
			return nil, api.Fault{Err: api.ErrLong, At: at}
		}
		l = append(l, tok(kind, s, at))
		at += len(s)
	}
}

func wantModel(t *testing.T, text string) {
	t.Helper()
	l, f := model(text)
	if f.Err != api.OK {
		wantFault(t, text, f.Err, f.At)
		return
	}
	wantTokens(t, text, l...)
}

// 3.1

func TestOfExampleOfTheChapter(t *testing.T) {
	wantTokens(t, "a==b // c",
		tok(api.TName, "a", 0), tok(api.TSign, "==", 1), tok(api.TName, "b", 3), tok(api.TEnd, "", 9))
}

func TestOfAClass(t *testing.T) {
	wantTokens(t, "class List9<d> {\n\trep Item a = 907;\r\n}",
		tok(api.TWord, "class", 0), tok(api.TName, "List9", 6), tok(api.TSign, "<", 11), tok(api.TName, "d", 12),
		tok(api.TSign, ">", 13), tok(api.TSign, "{", 15), tok(api.TWord, "rep", 18), tok(api.TName, "Item", 22),
		tok(api.TName, "a", 27), tok(api.TSign, "=", 29), tok(api.TNumber, "907", 31), tok(api.TSign, ";", 34),
		tok(api.TSign, "}", 37), tok(api.TEnd, "", 38))
}

func TestOfTheEmptyText(t *testing.T) {
	wantTokens(t, "", tok(api.TEnd, "", 0))
}

func TestBlanksAloneAreLeftOut(t *testing.T) {
	for _, text := range []string{" ", "\t", "\n", "\r", " \t\r\n", strings.Repeat("\n ", 500)} {
		wantTokens(t, text, tok(api.TEnd, "", len(text)))
	}
}

func TestNotesAreLeftOutUpToALinesEnd(t *testing.T) {
	for _, text := range []string{"//", "///", "////", "// a", "//\n", "// $ & / é \xff \x00 01\n", "//a\n//b\n", " // a\n // b", "//\r a", "//\t//"} {
		wantTokens(t, text, tok(api.TEnd, "", len(text)))
	}
	wantTokens(t, "a//b\nc", tok(api.TName, "a", 0), tok(api.TName, "c", 5), tok(api.TEnd, "", 6))
	wantTokens(t, "//a\n//b\nc//", tok(api.TName, "c", 8), tok(api.TEnd, "", 11))
	wantTokens(t, "1//\n//\n \n//\n2", tok(api.TNumber, "1", 0), tok(api.TNumber, "2", 12), tok(api.TEnd, "", 13))
	// A byte 13 ends no note.
	wantTokens(t, "a//b\rc\n=", tok(api.TName, "a", 0), tok(api.TSign, "=", 7), tok(api.TEnd, "", 8))
	wantFault(t, "// $\n$", api.ErrByte, 5)
}

func TestOneSlashBeginsNothing(t *testing.T) {
	wantFault(t, "/", api.ErrByte, 0)
	wantFault(t, "a /", api.ErrByte, 2)
	wantFault(t, "a / b", api.ErrByte, 2)
	wantFault(t, "a / / b", api.ErrByte, 2)
	wantFault(t, "/*a*/", api.ErrByte, 0)
	wantFault(t, "//\n/", api.ErrByte, 3)
	wantFault(t, "a/\n/b", api.ErrByte, 1)
}

func TestEachSign(t *testing.T) {
	for _, s := range strings.Fields(signs) {
		wantTokens(t, s, tok(api.TSign, s, 0), tok(api.TEnd, "", len(s)))
		wantTokens(t, "a"+s+"1", tok(api.TName, "a", 0), tok(api.TSign, s, 1), tok(api.TNumber, "1", 1+len(s)), tok(api.TEnd, "", 2+len(s)))
	}
}

func TestTheLongestSignStands(t *testing.T) {
	wantTokens(t, "=", tok(api.TSign, "=", 0), tok(api.TEnd, "", 1))
	wantTokens(t, "==", tok(api.TSign, "==", 0), tok(api.TEnd, "", 2))
	wantTokens(t, "= =", tok(api.TSign, "=", 0), tok(api.TSign, "=", 2), tok(api.TEnd, "", 3))
	wantTokens(t, "===", tok(api.TSign, "==", 0), tok(api.TSign, "=", 2), tok(api.TEnd, "", 3))
	wantTokens(t, "====", tok(api.TSign, "==", 0), tok(api.TSign, "==", 2), tok(api.TEnd, "", 4))
	wantTokens(t, "!=", tok(api.TSign, "!", 0), tok(api.TSign, "=", 1), tok(api.TEnd, "", 2))
	wantTokens(t, "<=", tok(api.TSign, "<", 0), tok(api.TSign, "=", 1), tok(api.TEnd, "", 2))
	wantTokens(t, "&&&&", tok(api.TSign, "&&", 0), tok(api.TSign, "&&", 2), tok(api.TEnd, "", 4))
}

func TestOneAmpersandBeginsNothing(t *testing.T) {
	wantFault(t, "&", api.ErrByte, 0)
	wantFault(t, "a & b", api.ErrByte, 2)
	wantFault(t, "a & & b", api.ErrByte, 2)
	wantFault(t, "&=", api.ErrByte, 0)
	wantFault(t, "a &&& b", api.ErrByte, 4)
}

func TestEachWordOfTheLanguage(t *testing.T) {
	for _, w := range strings.Fields(words) {
		wantTokens(t, w, tok(api.TWord, w, 0), tok(api.TEnd, "", len(w)))
		wantTokens(t, w+";"+w, tok(api.TWord, w, 0), tok(api.TSign, ";", len(w)), tok(api.TWord, w, len(w)+1), tok(api.TEnd, "", 2*len(w)+1))
		for _, n := range []string{w + "x", w + "1", "x" + w, strings.ToUpper(w), w[:len(w)-1]} {
			wantTokens(t, n, tok(api.TName, n, 0), tok(api.TEnd, "", len(n)))
		}
	}
}

func TestNamesHaveTwentyBytesAtMost(t *testing.T) {
	for n := 1; n <= 60; n++ {
		for _, s := range []string{strings.Repeat("x", n), "Y" + strings.Repeat("7", n-1)} {
			if n <= 20 {
				wantTokens(t, s, tok(api.TName, s, 0), tok(api.TEnd, "", n))
			} else {
				wantFault(t, s, api.ErrLong, 0)
				wantFault(t, "a = "+s+";", api.ErrLong, 4)
			}
		}
	}
	// Twenty bytes and a word of the language are one name of more bytes.
	wantFault(t, strings.Repeat("x", 20)+"rep", api.ErrLong, 0)
	wantTokens(t, strings.Repeat("x", 20)+" rep", tok(api.TName, strings.Repeat("x", 20), 0), tok(api.TWord, "rep", 21), tok(api.TEnd, "", 24))
}

func TestNumbersHaveNineDigitsAtMost(t *testing.T) {
	for n := 1; n <= 40; n++ {
		s := strings.Repeat("9", n)
		if n <= 9 {
			wantTokens(t, s, tok(api.TNumber, s, 0), tok(api.TEnd, "", n))
		} else {
			wantFault(t, s, api.ErrLong, 0)
			wantFault(t, "a = "+s+";", api.ErrLong, 4)
		}
	}
	wantTokens(t, "999999999", tok(api.TNumber, "999999999", 0), tok(api.TEnd, "", 9))
	wantFault(t, "1000000000", api.ErrLong, 0)
}

func TestNumbersHaveNoNoughtAhead(t *testing.T) {
	wantTokens(t, "0", tok(api.TNumber, "0", 0), tok(api.TEnd, "", 1))
	wantTokens(t, "0 1", tok(api.TNumber, "0", 0), tok(api.TNumber, "1", 2), tok(api.TEnd, "", 3))
	wantTokens(t, "10", tok(api.TNumber, "10", 0), tok(api.TEnd, "", 2))
	for _, s := range []string{"00", "01", "007", "000000000", "000000001", "0000000000"} {
		wantFault(t, s, api.ErrLong, 0)
		wantFault(t, "x = "+s+";", api.ErrLong, 4)
		wantFault(t, "1 "+s+"a", api.ErrLong, 2)
	}
}

func TestNumbersEndAtTheLastDigit(t *testing.T) {
	wantTokens(t, "12ab", tok(api.TNumber, "12", 0), tok(api.TName, "ab", 2), tok(api.TEnd, "", 4))
	wantTokens(t, "0x1", tok(api.TNumber, "0", 0), tok(api.TName, "x1", 1), tok(api.TEnd, "", 3))
	wantTokens(t, "1rep", tok(api.TNumber, "1", 0), tok(api.TWord, "rep", 1), tok(api.TEnd, "", 4))
	wantTokens(t, "-1.5", tok(api.TSign, "-", 0), tok(api.TNumber, "1", 1), tok(api.TSign, ".", 2), tok(api.TNumber, "5", 3), tok(api.TEnd, "", 4))
}

func TestEachByte(t *testing.T) {
	begins := "abcdefghijklmnopqrstuvwxyzABCDEFGHIJKLMNOPQRSTUVWXYZ0123456789\t\n\r {}()<>,;.=+-*!"
	for i := range 256 {
		s := string([]byte{byte(i)})
		wantModel(t, s)
		wantModel(t, "a"+s)
		wantModel(t, "7"+s+"x")
		if strings.Contains(begins, s) {
			tokens(t, s)
			continue
		}
		wantFault(t, s, api.ErrByte, 0)
		wantFault(t, "ab"+s, api.ErrByte, 2)
		wantFault(t, "1 "+s+" ab", api.ErrByte, 2)
	}
	wantFault(t, "a = é;", api.ErrByte, 4)
	wantFault(t, "a_b", api.ErrByte, 1)
}

func TestTheFirstFaultIsTold(t *testing.T) {
	long := strings.Repeat("x", 21)
	wantFault(t, "$ & /", api.ErrByte, 0)
	wantFault(t, "a $ "+long, api.ErrByte, 2)
	wantFault(t, "a "+long+" $", api.ErrLong, 2)
	wantFault(t, "a "+long+"$", api.ErrLong, 2)
	wantFault(t, "01 $ "+long, api.ErrLong, 0)
	wantFault(t, "$01", api.ErrByte, 0)
	wantFault(t, "a 1234567890 "+long, api.ErrLong, 2)
	wantFault(t, "// $ 01 "+long+"\n & 01", api.ErrByte, 31)
}

func TestTextsHave16384BytesAtMost(t *testing.T) {
	const most = 16384
	blanks := strings.Repeat(" ", most)
	wantTokens(t, blanks, tok(api.TEnd, "", most))
	wantTokens(t, blanks[1:]+"a", tok(api.TName, "a", most-1), tok(api.TEnd, "", most))
	wantTokens(t, "//"+blanks[2:], tok(api.TEnd, "", most))
	wantFault(t, blanks+" ", api.ErrLarge, 0)
	wantFault(t, blanks+"a", api.ErrLarge, 0)
	wantFault(t, "//"+blanks, api.ErrLarge, 0)
	wantFault(t, blanks[1:]+"$", api.ErrByte, most-1)
	wantFault(t, strings.Repeat("x", most), api.ErrLong, 0)
	if l := tokens(t, strings.Repeat(";", most)); len(l) != most+1 || l[most] != tok(api.TEnd, "", most) {
		t.Errorf("%d signs are %d tokens", most, len(l))
	}
	// The size is asked ahead of all else.
	wantFault(t, "$"+blanks, api.ErrLarge, 0)
	wantFault(t, " 01"+blanks, api.ErrLarge, 0)
	wantFault(t, strings.Repeat("$", 1<<20), api.ErrLarge, 0)
}

func TestShortTextsAreAsTheModel(t *testing.T) {
	texts := []string{""}
	for i := 0; i < len(texts); i++ {
		wantModel(t, texts[i])
		if len(texts[i]) == 5 {
			continue
		}
		for _, b := range []string{"i", "f", "0", "1", " ", "\n", "/", "=", "&", "$"} {
			texts = append(texts, texts[i]+b)
		}
	}
}

// 3.2

func TestTextPutsABlankBetweenTokens(t *testing.T) {
	for text, want := range map[string]string{
		"":                     "",
		" // a":                "",
		"a":                    "a",
		"a==b // c":            "a == b",
		"class A{int x;}":      "class A { int x ; }",
		"x=1+2 *\n\t3;// note": "x = 1 + 2 * 3 ;",
	} {
		if got := token.Text(tokens(t, text)); got != want {
			t.Errorf("Text of the tokens of %q is %q, want %q", text, got, want)
		}
	}
}

func TestTextOfAnyTokens(t *testing.T) {
	a, b, end := tok(api.TName, "a", 9), tok(api.TSign, "b", -1), tok(api.TEnd, "", 0)
	none := tok(api.TName, "", 0)
	for _, c := range []struct {
		l    []api.Token
		want string
	}{
		{nil, ""},
		{[]api.Token{}, ""},
		{[]api.Token{end}, ""},
		{[]api.Token{tok(api.TEnd, "text", 3)}, ""},
		{[]api.Token{a}, "a"},
		{[]api.Token{b, a}, "b a"},
		{[]api.Token{end, a, end, end, b, end}, "a b"},
		{[]api.Token{a, tok(api.TEnd, "text", 3), b}, "a b"},
		{[]api.Token{none}, ""},
		{[]api.Token{none, none}, " "},
		{[]api.Token{none, a, none, b}, " a  b"},
		{[]api.Token{tok(77, "x y", 0), tok(-1, "\xff", 0)}, "x y \xff"},
	} {
		if got := token.Text(c.l); got != c.want {
			t.Errorf("Text(%v) = %q, want %q", c.l, got, c.want)
		}
	}
}

func TestSameAsksKindsAndTexts(t *testing.T) {
	a, b := tok(api.TName, "a", 1), tok(api.TName, "b", 3)
	end := tok(api.TEnd, "", 9)
	for _, c := range []struct {
		a, b []api.Token
		want bool
	}{
		{nil, nil, true},
		{nil, []api.Token{}, true},
		{[]api.Token{a, b}, []api.Token{a, b}, true},
		{[]api.Token{a, b}, []api.Token{tok(api.TName, "a", 7), tok(api.TName, "b", -7)}, true},
		{[]api.Token{tok(77, "x", 0)}, []api.Token{tok(77, "x", 1)}, true},
		{[]api.Token{a, b}, []api.Token{b, a}, false},
		{[]api.Token{a, b}, []api.Token{a, a}, false},
		{[]api.Token{a, b}, []api.Token{b, b}, false},
		{[]api.Token{a}, []api.Token{a, b}, false},
		{[]api.Token{a, b}, []api.Token{a}, false},
		{[]api.Token{a}, []api.Token{a, end}, false},
		{nil, []api.Token{end}, false},
		{[]api.Token{end}, []api.Token{tok(api.TEnd, "x", 9)}, false},
		{[]api.Token{a}, []api.Token{tok(api.TWord, "a", 1)}, false},
		{[]api.Token{tok(api.TName, "", 0)}, []api.Token{end}, false},
	} {
		if got := token.Same(c.a, c.b); got != c.want {
			t.Errorf("Same(%v, %v) = %v, want %v", c.a, c.b, got, c.want)
		}
		if got := token.Same(c.b, c.a); got != c.want {
			t.Errorf("Same(%v, %v) = %v, want %v", c.b, c.a, got, c.want)
		}
	}
	if !token.Same(tokens(t, "a==b // c"), tokens(t, " a\n== b")) || token.Same(tokens(t, "a==b"), tokens(t, "a= =b")) {
		t.Error("Same of two texts' tokens")
	}
}

func TestIsAsksWordsAndSigns(t *testing.T) {
	for _, kind := range []int{-1, api.TEnd, api.TName, api.TNumber, api.TWord, api.TSign, 5, 77} {
		has := kind == api.TWord || kind == api.TSign
		for _, s := range []string{"rep", "==", "", "x", "7", "{", "\xff", "a b"} {
			if got := token.Is(tok(kind, s, 5), s); got != has {
				t.Errorf("Is(%d %q, %q) = %v, want %v", kind, s, s, got, has)
			}
			for _, other := range []string{s + " ", "=" + s, "Rep"} {
				if token.Is(tok(kind, s, 5), other) {
					t.Errorf("Is(%d %q, %q)", kind, s, other)
				}
			}
		}
	}
	l := tokens(t, "rep a = 7")
	for i, s := range []string{"rep", "a", "=", "7", ""} {
		if got, want := token.Is(l[i], s), i == 0 || i == 2; got != want {
			t.Errorf("Is(%v, %q) = %v, want %v", l[i], s, got, want)
		}
	}
}

// 3.3

// samples are texts without a fault.
func samples() []string {
	l := []string{
		"", " ", "// a", "a", "0", words, signs,
		strings.ReplaceAll(signs, " ", ""), strings.ReplaceAll(words, " ", "//\n"),
		"a==b // c", "a===b&&!c", "12ab", "\r\n\tclass  A\n// $ é\n{ } // end", "//\n//\na//a\n\n//", "x=0;y=999999999;",
		"class Main { int main() { int n; n = input; while (0 < n) { n = n - 1; } return n; } }",
		"class List<d> { d Item first; } class Item { } class Main { world List<peer> l; void main() { } }",
	}
	for _, x := range []string{"a", "1", "if", "=", "==", ";"} {
		for _, y := range []string{"b", "2", "this", "=", "==", "&&"} {
			for _, gap := range []string{" ", "\n", "//\n", " // $\n\t"} {
				l = append(l, gap+x+gap+y+gap)
			}
		}
	}
	return l
}

func TestTokensComeBackFromTheirText(t *testing.T) {
	for _, text := range samples() {
		l := tokens(t, text)
		s := token.Text(l)
		back := tokens(t, s)
		if !token.Same(l, back) || token.Text(back) != s {
			t.Errorf("%q comes back as %v, not %v", text, back, l)
		}
	}
}

func TestTokensStandWhereTheySay(t *testing.T) {
	for _, text := range samples() {
		at := 0
		for _, k := range tokens(t, text) {
			if k.At < at || k.At+len(k.Text) > len(text) || text[k.At:k.At+len(k.Text)] != k.Text {
				t.Errorf("%v does not stand in %q", k, text)
				break
			}
			if gap := text[at:]; len(leftOut.FindString(gap)) != k.At-at {
				t.Errorf("ahead of %v something else stands in %q", k, text)
			}
			at = k.At + len(k.Text)
		}
		if at != len(text) {
			t.Errorf("the tokens of %q end at %d", text, at)
		}
	}
}

// R4: what is handed in is not changed, what was handed out stays.

func TestListsStayAsTheyAre(t *testing.T) {
	l := tokens(t, "rep a = b; // c")
	kept := slices.Clone(l)
	m := slices.Clone(l)
	token.Text(l)
	token.Same(l, m)
	tokens(t, "peer z == y; // c")
	if !slices.Equal(l, kept) || !slices.Equal(m, kept) {
		t.Errorf("%v has become %v, %v", kept, l, m)
	}
}

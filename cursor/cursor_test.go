package cursor_test

import (
	"math"
	"slices"
	"testing"

	"demesne/api"
	"demesne/cursor"
	"demesne/token"
)

// end is the end of text, which is where the list of its tokens ends, too.
var end = api.Token{Kind: api.TEnd, At: len(text)}

const text = "int a = 7;"

func tokens(t *testing.T) []api.Token {
	t.Helper()
	l, f := token.Of(text)
	if f != (api.Fault{}) {
		t.Fatal(f)
	}
	return l
}

// wantAt asks where a cursor stands, and ahead of what.
func wantAt(t *testing.T, c *cursor.Cursor, place int, want api.Token) {
	t.Helper()
	if c.Place() != place || c.Token() != want {
		t.Errorf("the cursor stands at %d, ahead of %v, want %d, %v", c.Place(), c.Token(), place, want)
	}
}

func TestTokensAreTakenOneByOne(t *testing.T) {
	l := tokens(t)
	c := cursor.New(l, 0)
	for i, want := range l {
		wantAt(t, &c, i, want)
		if got := c.Take(); got != want {
			t.Errorf("taken is %v, want %v", got, want)
		}
	}
	wantAt(t, &c, len(l), end)
	c = cursor.New(l, 3)
	wantAt(t, &c, 3, l[3])
	// The last token of a list needn't be an end.
	c = cursor.New(l[:4], 3)
	wantAt(t, &c, 3, l[3])
}

func TestBehindTheNextToken(t *testing.T) {
	l := tokens(t)
	for at := range l {
		c := cursor.New(l, at)
		for n := range 9 {
			want := end
			if at+n < len(l) {
				want = l[at+n]
			}
			if got := c.Behind(n); got != want {
				t.Errorf("%d behind %d stands %v, want %v", n, at, got, want)
			}
		}
		wantAt(t, &c, at, l[at])
	}
}

func TestEndsStandAheadOfAllAndBehindAll(t *testing.T) {
	l := tokens(t)
	for _, at := range []int{math.MinInt, -77, -1, len(l), len(l) + 1, math.MaxInt} {
		c := cursor.New(l, at)
		wantAt(t, &c, at, end)
		// Where the last token is no end, one stands behind it at its place.
		c = cursor.New(l[:4], at)
		wantAt(t, &c, at, api.Token{Kind: api.TEnd, At: 8})
		for _, none := range [][]api.Token{nil, {}} {
			c = cursor.New(none, at)
			wantAt(t, &c, at, api.Token{})
		}
	}
	c := cursor.New(l[:4], 4)
	wantAt(t, &c, 4, api.Token{Kind: api.TEnd, At: 8})
	for _, none := range [][]api.Token{nil, {}} {
		c = cursor.New(none, 0)
		wantAt(t, &c, 0, api.Token{})
	}
}

func TestWordsAndSignsAreSkipped(t *testing.T) {
	l := tokens(t)
	c := cursor.New(l, 0)
	for _, s := range []string{"", "a", "=", "in"} {
		if c.Skip(s) {
			t.Errorf("%q is skipped for int", s)
		}
		wantAt(t, &c, 0, l[0])
	}
	if !c.Skip("int") {
		t.Errorf("int is not skipped")
	}
	wantAt(t, &c, 1, l[1])
	if c.Skip("a") {
		t.Errorf("a name is skipped")
	}
	wantAt(t, &c, 1, l[1])
	c = cursor.New(l, 2)
	if !c.Skip("=") || c.Skip("7") {
		t.Errorf("= is not skipped, or a number is")
	}
	wantAt(t, &c, 3, l[3])
	c = cursor.New(l, len(l)-1)
	if c.Skip("") {
		t.Errorf("the end is skipped")
	}
	wantAt(t, &c, len(l)-1, end)
}

func TestWordsAndSignsAreWanted(t *testing.T) {
	l := tokens(t)
	for at, x := range l {
		for _, s := range []string{"int", "a", "=", "7", ";", ""} {
			c := cursor.New(l, at)
			f := c.Want(s)
			if token.Is(x, s) {
				wantAt(t, &c, at+1, l[at+1])
			} else {
				wantAt(t, &c, at, x)
			}
			if want := cursor.Wrong(api.ErrToken, x); token.Is(x, s) != (f == api.Fault{}) || f != want && f != (api.Fault{}) {
				t.Errorf("%q wanted at %v has the fault %v", s, x, f)
			}
		}
	}
}

func TestNamesAreRead(t *testing.T) {
	l := tokens(t)
	for at, x := range l {
		c := cursor.New(l, at)
		s, f := c.Name()
		if x.Text == "a" {
			if s != "a" || f != (api.Fault{}) {
				t.Errorf("the name is %q, %v", s, f)
			}
			wantAt(t, &c, at+1, l[at+1])
			continue
		}
		if s != "" || f != (api.Fault{Err: api.ErrToken, At: x.At}) {
			t.Errorf("%v is the name %q, %v", x, s, f)
		}
		wantAt(t, &c, at, x)
	}
}

func TestWhatAnotherLayerReads(t *testing.T) {
	l := tokens(t)
	bad := api.Fault{Err: api.ErrDeep, At: 5}
	for at := range l {
		c := cursor.New(l, at)
		s, f := cursor.Read(&c, func(all []api.Token, from int) (string, int, api.Fault) {
			if !slices.Equal(all, l) || from != at {
				t.Errorf("it is asked to read %v from %d on, not from %d", all, from, at)
			}
			return "none", 2, bad
		})
		if s != "none" || f != bad {
			t.Errorf("what has a fault is read as %q, %v", s, f)
		}
		wantAt(t, &c, at, l[at])
		n, f := cursor.Read(&c, func([]api.Token, int) (int, int, api.Fault) { return 7, 3, api.Fault{} })
		if n != 7 || f != (api.Fault{}) {
			t.Errorf("it is read as %d, %v", n, f)
		}
		wantAt(t, &c, 3, l[3])
	}
}

func TestWrongIsToldWhereATokenStands(t *testing.T) {
	if f := cursor.Wrong(api.ErrDeep, api.Token{Kind: api.TSign, Text: "(", At: 9}); f != (api.Fault{Err: api.ErrDeep, At: 9}) {
		t.Errorf("the fault is %v", f)
	}
}

func TestTokensStayAsTheyWere(t *testing.T) {
	l := tokens(t)
	c := cursor.New(l, 0)
	for range l {
		c.Skip("=")
		c.Want("=")
		c.Name()
		c.Take()
	}
	if !slices.Equal(l, tokens(t)) {
		t.Errorf("the tokens have become %v", l)
	}
}

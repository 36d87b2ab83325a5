package annot_test

import (
	"math"
	"slices"
	"strings"
	"testing"

	"demesne/annot"
	"demesne/api"
	"demesne/kind"
	"demesne/sample"
	"demesne/token"
)

// everyToken is a token of each kind and text, but for names and numbers, of which there are some.
const everyToken = sample.Words + " data key Item 0 907 " + sample.Signs

// params are the owner parameters of the class in which all is read, if nothing else is said.
var params = []string{"data", "key"}

var (
	rep    = sample.Rep
	peer   = sample.Peer
	world  = sample.World
	any0   = sample.Any
	unique = sample.Unique
	hole   = sample.Hole
	data   = sample.Param(1)
	key    = sample.Param(2)
)

// owners are the owners that may stand behind a class, by how they are written.
var owners = map[string]api.Owner{"rep": rep, "peer": peer, "world": world, "any": any0, "data": data, "key": key}

// outside are places where a list of so many tokens has none.
func outside(size int) []int {
	return []int{math.MinInt, math.MinInt + 1, -77, -2, -1, size, size + 1, size + 77, math.MaxInt - 1, math.MaxInt}
}

// isName tells whether a token's text is that of a name.
func isName(s string) bool { return s == "data" || s == "key" || s == "Item" }

func tokensOf(t *testing.T, text string) []api.Token {
	t.Helper()
	l, f := token.Of(text)
	if f != (api.Fault{}) {
		t.Fatalf("token.Of(%q) has the fault %v", text, f)
	}
	return l
}

// wantOwners asks that owners are read from the text's token at on, up to the one at next.
func wantOwners(t *testing.T, text string, at int, names []string, next int, want ...api.Owner) {
	t.Helper()
	l, n, f := annot.Owners(tokensOf(t, text), at, names)
	if f != (api.Fault{}) || n != next || !slices.Equal(l, want) {
		t.Errorf("Owners(%q, %d, %q) = %v, %d, %v, want %v, %d", text, at, names, l, n, f, want, next)
	}
}

// wantNoOwners asks that the owners read from the text's token at on have a fault at a byte.
func wantNoOwners(t *testing.T, text string, at int, err api.Errno, where int) {
	t.Helper()
	l, n, f := annot.Owners(tokensOf(t, text), at, params)
	if f != (api.Fault{Err: err, At: where}) || n != 0 || len(l) != 0 {
		t.Errorf("Owners(%q, %d, %q) = %v, %d, %v, want fault %d at %d", text, at, params, l, n, f, err, where)
	}
}

// wantType asks that a type is read from the text's token at on, up to the one at next.
func wantType(t *testing.T, text string, at int, named bool, want api.Type, next int) {
	t.Helper()
	x, n, f := annot.Parse(tokensOf(t, text), at, params, named)
	if f != (api.Fault{}) || n != next || x != want {
		t.Errorf("Parse(%q, %d, %q, %v) = %v, %d, %v, want %v, %d", text, at, params, named, x, n, f, want, next)
	}
}

// wantNoType asks that the type read from the text's token at on has a fault at a byte.
func wantNoType(t *testing.T, text string, at int, named bool, err api.Errno, where int) {
	t.Helper()
	x, n, f := annot.Parse(tokensOf(t, text), at, params, named)
	if f != (api.Fault{Err: err, At: where}) || n != 0 || x != (api.Type{}) {
		t.Errorf("Parse(%q, %d, %q, %v) = %v, %d, %v, want fault %d at %d", text, at, params, named, x, n, f, err, where)
	}
}

// wantBoth asks that a type is read alike, whether a name is to follow or not.
func wantBoth(t *testing.T, text string, want api.Type, next int) {
	t.Helper()
	wantType(t, text, 0, false, want, next)
	wantType(t, text, 0, true, want, next)
}

// wantNeither asks that a type has one fault, whether a name is to follow or not.
func wantNeither(t *testing.T, text string, err api.Errno, where int) {
	t.Helper()
	wantNoType(t, text, 0, false, err, where)
	wantNoType(t, text, 0, true, err, where)
}

// wantVar asks that a variable is read from the text's token at on, up to the one at next.
func wantVar(t *testing.T, text string, at int, want api.Var, next int) {
	t.Helper()
	v, n, f := annot.Var(tokensOf(t, text), at, params)
	if f != (api.Fault{}) || n != next || v != want {
		t.Errorf("Var(%q, %d, %q) = %v, %d, %v, want %v, %d", text, at, params, v, n, f, want, next)
	}
}

// wantNoVar asks that the variable read from the text's token at on has a fault at a byte.
func wantNoVar(t *testing.T, text string, at int, err api.Errno, where int) {
	t.Helper()
	v, n, f := annot.Var(tokensOf(t, text), at, params)
	if f != (api.Fault{Err: err, At: where}) || n != 0 || v != (api.Var{}) {
		t.Errorf("Var(%q, %d, %q) = %v, %d, %v, want fault %d at %d", text, at, params, v, n, f, err, where)
	}
}

func wantBegins(t *testing.T, text string, at int, want bool) {
	t.Helper()
	if got := annot.Begins(tokensOf(t, text), at); got != want {
		t.Errorf("Begins(%q, %d) = %v, want %v", text, at, got, want)
	}
}

// 7.1 Owners

func TestOneToThreeOwners(t *testing.T) {
	for a, first := range owners {
		wantOwners(t, "<"+a+">", 0, params, 3, first)
		for b, second := range owners {
			wantOwners(t, "< "+a+" , "+b+" >", 0, params, 5, first, second)
			for c, third := range owners {
				wantOwners(t, "<"+a+","+b+","+c+">", 0, params, 7, first, second, third)
			}
		}
	}
}

func TestOwnersEndBehindTheirLastSign(t *testing.T) {
	for _, s := range strings.Fields(everyToken) {
		wantOwners(t, "<rep, key> "+s, 0, params, 5, rep, key)
		wantOwners(t, "<rep> "+s+" data", 0, params, 3, rep)
	}
	wantOwners(t, "<rep><peer>", 0, params, 3, rep)
}

func TestOwnersFromATokenOn(t *testing.T) {
	text := "rep Map < data , any > x < key >"
	wantOwners(t, text, 2, params, 7, data, any0)
	wantOwners(t, text, 8, params, 11, key)
	for at, where := range map[int]int{0: 0, 1: 4, 3: 10, 4: 15, 5: 17, 6: 21, 7: 23, 9: 27, 10: 31, 11: 32} {
		wantNoOwners(t, text, at, api.ErrToken, where)
	}
}

func TestAnOwnerIsAWordOrAParameter(t *testing.T) {
	for _, s := range strings.Fields(everyToken) {
		for _, ahead := range []string{"<", "<rep, ", "<key , any, ", "<rep,data,peer, "} {
			text := ahead + s + " >"
			switch _, is := owners[s]; {
			case is && strings.Count(ahead, ",") == 3:
				wantNoOwners(t, text, 0, api.ErrArity, len(ahead))
			case is:
				_, n, f := annot.Owners(tokensOf(t, text), 0, params)
				if f != (api.Fault{}) || n != len(tokensOf(t, text))-1 {
					t.Errorf("Owners(%q) ends at %d, %v", text, n, f)
				}
			case isName(s):
				wantNoOwners(t, text, 0, api.ErrOwner, len(ahead))
			default:
				wantNoOwners(t, text, 0, api.ErrToken, len(ahead))
			}
		}
	}
}

func TestAFourthOwner(t *testing.T) {
	const three = "<rep, data, any, "
	for a := range owners {
		for _, behind := range []string{"", ">", ", rep>", ", other>", " 7", "<", " rep"} {
			wantNoOwners(t, three+a+behind, 0, api.ErrArity, len(three))
		}
	}
	for _, behind := range []string{"", ">", ", rep>", " 7"} {
		wantNoOwners(t, three+"other"+behind, 0, api.ErrOwner, len(three))
		wantNoOwners(t, three+"unique"+behind, 0, api.ErrToken, len(three))
		wantNoOwners(t, three+"7"+behind, 0, api.ErrToken, len(three))
	}
	wantNoOwners(t, three, 0, api.ErrToken, len(three))
	wantNoOwners(t, "<rep, other, any, peer>", 0, api.ErrOwner, 6)
}

func TestCommasTooFewOrTooMany(t *testing.T) {
	wantNoOwners(t, "<rep peer>", 0, api.ErrToken, 5)
	wantNoOwners(t, "<data key>", 0, api.ErrToken, 6)
	wantNoOwners(t, "<data other>", 0, api.ErrToken, 6)
	wantNoOwners(t, "<rep, peer any>", 0, api.ErrToken, 11)
	wantNoOwners(t, "<rep, peer, any world>", 0, api.ErrToken, 16)
	wantNoOwners(t, "<,>", 0, api.ErrToken, 1)
	wantNoOwners(t, "<,rep>", 0, api.ErrToken, 1)
	wantNoOwners(t, "<rep,>", 0, api.ErrToken, 5)
	wantNoOwners(t, "<rep,,peer>", 0, api.ErrToken, 5)
	wantNoOwners(t, "<rep, peer,>", 0, api.ErrToken, 11)
	wantNoOwners(t, "<rep, peer, any,>", 0, api.ErrToken, 16)
}

func TestOwnersWithoutTheirSigns(t *testing.T) {
	wantNoOwners(t, "<>", 0, api.ErrToken, 1)
	wantNoOwners(t, "rep>", 0, api.ErrToken, 0)
	wantNoOwners(t, "data, key>", 0, api.ErrToken, 0)
	wantNoOwners(t, "other", 0, api.ErrToken, 0)
	wantNoOwners(t, ">rep>", 0, api.ErrToken, 0)
	wantNoOwners(t, "<<rep>>", 0, api.ErrToken, 1)
	for _, text := range []string{"", "<", "<rep", "<rep,", "<rep, key", "<rep, key,", "<rep, key, any"} {
		wantNoOwners(t, text, 0, api.ErrToken, len(text))
	}
	for _, s := range strings.Fields(everyToken) {
		if s != "<" {
			wantNoOwners(t, s+" rep>", 0, api.ErrToken, 0)
		}
		if s != ">" && s != "," {
			wantNoOwners(t, "<rep "+s+" >", 0, api.ErrToken, 5)
			wantNoOwners(t, "<rep, key "+s+" rep>", 0, api.ErrToken, 10)
			wantNoOwners(t, "<rep, key, any "+s+" >", 0, api.ErrToken, 15)
		}
	}
}

func TestParametersOfOtherClasses(t *testing.T) {
	for _, names := range [][]string{nil, {}} {
		wantOwners(t, "<rep, any>", 0, names, 5, rep, any0)
		l, n, f := annot.Owners(tokensOf(t, "<rep, data>"), 0, names)
		if f != (api.Fault{Err: api.ErrOwner, At: 6}) || n != 0 || len(l) != 0 {
			t.Errorf("without parameters the owners are %v, %d, %v", l, n, f)
		}
	}
	// Of parameters with one name it is the first one.
	twice := []string{"a", "b", "b", "a", "c"}
	wantOwners(t, "<a, b, c>", 0, twice, 7, data, key, api.Owner{Kind: api.OParam, N: 5})
	// A word of the language is no name, and a name is written as it stands.
	wantOwners(t, "<rep, Rep>", 0, []string{"rep", "Rep"}, 5, rep, key)
	wantOwners(t, "<a>", 0, []string{"A", "aa", "", "a"}, 3, api.Owner{Kind: api.OParam, N: 4})
}

// 7.1 Parse

func TestTypesThatAreAWord(t *testing.T) {
	for _, s := range append(strings.Fields(everyToken), "") {
		wantBoth(t, "void "+s, api.Type{}, 1)
		wantBoth(t, "int "+s, api.Type{Kind: api.KInt}, 1)
		wantBoth(t, "int "+s+" x", api.Type{Kind: api.KInt}, 1)
	}
	wantBoth(t, "int<rep>", api.Type{Kind: api.KInt}, 1)
	wantNeither(t, "rep int", api.ErrToken, 4)
	wantNeither(t, "unique void", api.ErrToken, 7)
	wantBoth(t, "data int", sample.Object(hole, "data"), 1)
}

func TestAnObjectsTypeWithEachOwner(t *testing.T) {
	all := map[string]api.Owner{"unique": unique}
	for s, o := range owners {
		all[s] = o
	}
	for s, o := range all {
		wantBoth(t, s+" Item x", sample.Object(o, "Item"), 2)
		wantBoth(t, s+" data x", sample.Object(o, "data"), 2)
		wantBoth(t, s+" Item<peer> x", sample.Object(o, "Item", peer), 5)
		wantBoth(t, s+" Item<peer, key> x", sample.Object(o, "Item", peer, key), 7)
		wantBoth(t, s+" Item<any, data, key> x", sample.Object(o, "Item", any0, data, key), 9)
		wantType(t, s+" Item", 0, false, sample.Object(o, "Item"), 2)
	}
}

func TestAnObjectsTypeWithItsOwnerLeftOut(t *testing.T) {
	for _, class := range []string{"Item", "data", "key"} {
		wantBoth(t, class, sample.Object(hole, class), 1)
		wantBoth(t, class+";", sample.Object(hole, class), 1)
		wantType(t, class+" x", 0, true, sample.Object(hole, class), 1)
		wantBoth(t, class+"<peer> x", sample.Object(hole, class, peer), 4)
		wantBoth(t, class+"<peer, data>", sample.Object(hole, class, peer, data), 6)
		wantBoth(t, class+"<rep, world, any> x", sample.Object(hole, class, rep, world, any0), 8)
	}
}

func TestParseExampleOfTheChapter(t *testing.T) {
	wantType(t, "data Item x", 0, true, sample.Object(data, "Item"), 2)
	wantType(t, "Item x", 0, true, sample.Object(hole, "Item"), 1)
}

// namesBehind are the tokens that make a name, with another one behind it, the owner, if it is named.
const namesBehind = " data key Item < this null "

func TestANameThatStandsFirst(t *testing.T) {
	words := append(strings.Fields(everyToken), "")
	for _, first := range []string{"data", "Item"} {
		for _, second := range words {
			for _, third := range words {
				// Owners are asked elsewhere, and behind the end there is nothing.
				if second == "<" || second == "" && third != "" {
					continue
				}
				text := first + " " + second + " " + third
				for _, named := range []bool{false, true} {
					isOwner := isName(second) && (!named || third != "" && strings.Contains(namesBehind, " "+third+" "))
					switch {
					case !isOwner:
						wantType(t, text, 0, named, sample.Object(hole, first), 1)
					case first == "Item":
						wantNoType(t, text, 0, named, api.ErrOwner, 0)
					case third == "<":
						wantNoType(t, text, 0, named, api.ErrToken, len(text))
						wantType(t, text+" rep > x", 0, named, sample.Object(data, second, rep), 5)
					default:
						wantType(t, text, 0, named, sample.Object(data, second), 2)
					}
				}
			}
		}
	}
}

func TestANameAheadOfOwners(t *testing.T) {
	for _, s := range append(strings.Fields(everyToken), "") {
		wantBoth(t, "Item<rep> "+s, sample.Object(hole, "Item", rep), 4)
		wantBoth(t, "data<data> "+s+" x", sample.Object(hole, "data", data), 4)
	}
	wantNoType(t, "Item key<rep", 0, true, api.ErrOwner, 0)
	wantNeither(t, "data Item<", api.ErrToken, 10)
	wantNeither(t, "data Item<rep", api.ErrToken, 13)
}

func TestANameBehindAnOwnerIsTheClass(t *testing.T) {
	for _, s := range []string{"rep", "peer", "world", "any", "unique"} {
		o := owners[s]
		if s == "unique" {
			o = unique
		}
		for _, behind := range []string{"", "x", "x y", "this", "null", "7", ";", "= 1"} {
			wantBoth(t, s+" key "+behind, sample.Object(o, "key"), 2)
			wantBoth(t, s+" Item "+behind, sample.Object(o, "Item"), 2)
		}
	}
	wantBoth(t, "data key Item x", sample.Object(data, "key"), 2)
	wantBoth(t, "key key key x", sample.Object(key, "key"), 2)
}

func TestTokensThatCannotBeginAType(t *testing.T) {
	begins := " rep peer world any unique void int data key Item "
	for _, s := range strings.Fields(everyToken) {
		if !strings.Contains(begins, " "+s+" ") {
			wantNeither(t, s, api.ErrToken, 0)
			wantNeither(t, s+" Item x", api.ErrToken, 0)
			wantNeither(t, "  "+s+" rep Item x", api.ErrToken, 2)
		}
	}
	wantNeither(t, "", api.ErrToken, 0)
	wantNeither(t, " // Item", api.ErrToken, 8)
}

func TestTokensThatCannotBeAClass(t *testing.T) {
	for _, o := range []string{"rep", "peer", "world", "any", "unique"} {
		for _, s := range strings.Fields(everyToken) {
			if !isName(s) {
				wantNeither(t, o+" "+s, api.ErrToken, len(o)+1)
				wantNeither(t, o+" "+s+" Item x", api.ErrToken, len(o)+1)
			}
		}
		wantNeither(t, o, api.ErrToken, len(o))
		wantNeither(t, o+"<rep>", api.ErrToken, len(o))
	}
}

func TestATypesOwnersTellTheirFaults(t *testing.T) {
	for _, ahead := range []string{"", "rep ", "unique ", "data "} {
		for text, want := range map[string]api.Fault{
			"Item<":                       {Err: api.ErrToken, At: 5},
			"Item<>":                      {Err: api.ErrToken, At: 5},
			"Item<unique> x":              {Err: api.ErrToken, At: 5},
			"Item<Item> x":                {Err: api.ErrOwner, At: 5},
			"Item<rep key> x":             {Err: api.ErrToken, At: 9},
			"Item<rep,> x":                {Err: api.ErrToken, At: 9},
			"Item<rep,x> x":               {Err: api.ErrOwner, At: 9},
			"Item<rep":                    {Err: api.ErrToken, At: 8},
			"Item<rep,peer,any,key> x":    {Err: api.ErrArity, At: 18},
			"Item<rep,peer,any,x> x":      {Err: api.ErrOwner, At: 18},
			"Item<rep,peer,any,unique> x": {Err: api.ErrToken, At: 18},
		} {
			wantNeither(t, ahead+text, want.Err, len(ahead)+want.At)
			wantNoVar(t, ahead+text, 0, want.Err, len(ahead)+want.At)
		}
	}
	// What is wrong with the first name is told ahead of what is wrong behind it.
	wantNeither(t, "x Item<rep key> x", api.ErrOwner, 0)
	wantNoVar(t, "x Item<a,b,c,d>", 0, api.ErrOwner, 0)
}

func TestTypesFromATokenOn(t *testing.T) {
	text := "x = new data Map < key > ; rep Item y ; void"
	wantType(t, text, 3, false, sample.Object(data, "Map", key), 8)
	wantType(t, text, 4, true, sample.Object(hole, "Map", key), 8)
	wantType(t, text, 6, true, sample.Object(hole, "key"), 7)
	wantType(t, text, 9, true, sample.Object(rep, "Item"), 11)
	wantType(t, text, 10, true, sample.Object(hole, "Item"), 11)
	wantNoType(t, text, 10, false, api.ErrOwner, 31)
	wantType(t, text, 11, false, sample.Object(hole, "y"), 12)
	wantType(t, text, 13, true, api.Type{}, 14)
	for at, where := range map[int]int{1: 2, 2: 4, 5: 17, 7: 23, 8: 25, 12: 38, 14: 44} {
		wantNoType(t, text, at, false, api.ErrToken, where)
		wantNoType(t, text, at, true, api.ErrToken, where)
	}
}

// 7.2 Var

func TestAVariableOfEachType(t *testing.T) {
	of := func(x api.Type) api.Var { return api.Var{Name: "x", Type: x} }
	wantVar(t, "int x", 0, of(api.Type{Kind: api.KInt}), 2)
	wantVar(t, "Item x", 0, of(sample.Object(hole, "Item")), 2)
	wantVar(t, "Item<rep, key> x", 0, of(sample.Object(hole, "Item", rep, key)), 7)
	wantVar(t, "unique Item x", 0, of(sample.Object(unique, "Item")), 3)
	wantVar(t, "unique Item<any> x", 0, of(sample.Object(unique, "Item", any0)), 6)
	for s, o := range owners {
		wantVar(t, s+" Item x", 0, of(sample.Object(o, "Item")), 3)
		wantVar(t, s+" Item<"+s+"> x", 0, of(sample.Object(o, "Item", o)), 6)
		wantVar(t, s+" Item<"+s+","+s+"> x", 0, of(sample.Object(o, "Item", o, o)), 8)
		wantVar(t, s+" Item<"+s+","+s+","+s+"> x", 0, of(sample.Object(o, "Item", o, o, o)), 10)
	}
}

func TestAVariableEndsBehindItsName(t *testing.T) {
	for _, s := range append(strings.Fields(everyToken), "") {
		wantVar(t, "int x "+s, 0, api.Var{Name: "x", Type: api.Type{Kind: api.KInt}}, 2)
		wantVar(t, "rep Item x "+s, 0, api.Var{Name: "x", Type: sample.Object(rep, "Item")}, 3)
		wantVar(t, "data Item x "+s+" y", 0, api.Var{Name: "x", Type: sample.Object(data, "Item")}, 3)
		wantVar(t, "Item<any> x "+s, 0, api.Var{Name: "x", Type: sample.Object(hole, "Item", any0)}, 5)
	}
	// Two names are a class and a variable, just if what is behind them doesn't make them an owner and a class.
	for _, s := range append(strings.Fields(everyToken), "") {
		if !strings.Contains(namesBehind, " "+s+" ") || s == "" {
			wantVar(t, "Item x "+s, 0, api.Var{Name: "x", Type: sample.Object(hole, "Item")}, 2)
			wantVar(t, "data key "+s, 0, api.Var{Name: "key", Type: sample.Object(hole, "data")}, 2)
		}
	}
	for _, s := range []string{"this", "null"} {
		wantNoVar(t, "data x "+s, 0, api.ErrToken, 7)
		wantNoVar(t, "Item x "+s, 0, api.ErrOwner, 0)
	}
}

func TestAVariableStandsWhereItsTypeBegins(t *testing.T) {
	text := "( int a , rep B b , data C c , D d , E < rep > e )"
	wantVar(t, text, 1, api.Var{Name: "a", Type: api.Type{Kind: api.KInt}, At: 2}, 3)
	wantVar(t, text, 4, api.Var{Name: "b", Type: sample.Object(rep, "B"), At: 10}, 7)
	wantVar(t, text, 5, api.Var{Name: "b", Type: sample.Object(hole, "B"), At: 14}, 7)
	wantVar(t, text, 8, api.Var{Name: "c", Type: sample.Object(data, "C"), At: 20}, 11)
	wantVar(t, text, 12, api.Var{Name: "d", Type: sample.Object(hole, "D"), At: 31}, 14)
	wantVar(t, text, 15, api.Var{Name: "e", Type: sample.Object(hole, "E", rep), At: 37}, 20)
	for at, where := range map[int]int{0: 0, 2: 8, 3: 8, 7: 18, 11: 29, 13: 35, 14: 35, 16: 39, 20: 49, 21: 50} {
		wantNoVar(t, text, at, api.ErrToken, where)
	}
	wantVar(t, " \n// a note\n\tint x", 0, api.Var{Name: "x", Type: api.Type{Kind: api.KInt}, At: 13}, 2)
}

func TestNoVariableIsVoid(t *testing.T) {
	for _, s := range append(strings.Fields(everyToken), "") {
		wantNoVar(t, "void "+s, 0, api.ErrToken, 0)
		wantNoVar(t, "int void "+s, 1, api.ErrToken, 4)
	}
}

func TestAVariableWithoutAName(t *testing.T) {
	for _, x := range []string{"int", "Item", "rep Item", "unique Item", "Item<rep>", "any Item<rep, key>", "peer data<any, data, key>"} {
		wantNoVar(t, x, 0, api.ErrToken, len(x))
		for _, s := range strings.Fields(everyToken) {
			if isName(s) || s == "<" && !strings.HasSuffix(x, ">") && x != "int" {
				continue
			}
			wantNoVar(t, x+" "+s, 0, api.ErrToken, len(x)+1)
			wantNoVar(t, x+" "+s+" x", 0, api.ErrToken, len(x)+1)
		}
	}
	wantNoVar(t, "data Item", 1, api.ErrToken, 9)
}

func TestAVariablesTypeTellsItsFaults(t *testing.T) {
	for _, s := range strings.Fields(everyToken) {
		if !strings.Contains(" rep peer world any unique int data key Item ", " "+s+" ") {
			wantNoVar(t, s, 0, api.ErrToken, 0)
			wantNoVar(t, s+" x", 0, api.ErrToken, 0)
			wantNoVar(t, s+" Item x", 0, api.ErrToken, 0)
		}
	}
	wantNoVar(t, "rep 7", 0, api.ErrToken, 4)
	wantNoVar(t, "other Item x", 0, api.ErrOwner, 0)
	wantNoVar(t, "", 0, api.ErrToken, 0)
}

// 7.2 Begins

func TestWhatBeginsAVariable(t *testing.T) {
	for _, s := range strings.Fields(everyToken) {
		alone := strings.Contains(" int rep peer world any unique ", " "+s+" ")
		wantBegins(t, s, 0, alone)
		for _, u := range strings.Fields(everyToken) {
			wantBegins(t, s+" "+u, 0, alone || isName(s) && (isName(u) || u == "<"))
		}
	}
	wantBegins(t, "", 0, false)
}

func TestBeginsFromATokenOn(t *testing.T) {
	text := "int a ; data List < peer > l ; l = a ;"
	for at := range 13 {
		wantBegins(t, text, at, slices.Contains([]int{0, 3, 4, 6}, at))
	}
	for _, s := range []string{"x = y;", "x.f = y;", "x", "x;", "x(", "void x", "this.f = x;", "return x;", "= a b"} {
		wantBegins(t, s, 0, false)
	}
}

func TestWhatIsAVariableBegins(t *testing.T) {
	for _, s := range []string{"int x", "Item x", "rep Item x", "data Item x", "Item<rep> x", "unique Item<rep> x", "key key<key> key"} {
		if _, _, f := annot.Var(tokensOf(t, s), 0, params); f != (api.Fault{}) {
			t.Errorf("%q has the fault %v", s, f)
		}
		wantBegins(t, s, 0, true)
	}
}

// No tokens, and places outside

func TestBehindTheLastTokenAndAheadOfTheFirstStandsAnEnd(t *testing.T) {
	for text, size := range map[string]int{"<rep> // c": 4, "rep Item x // c": 4, "int x": 3, "Item<any> x": 6, "": 1} {
		for _, at := range append(outside(size), size-1) {
			wantNoOwners(t, text, at, api.ErrToken, len(text))
			wantNoType(t, text, at, false, api.ErrToken, len(text))
			wantNoType(t, text, at, true, api.ErrToken, len(text))
			wantNoVar(t, text, at, api.ErrToken, len(text))
			wantBegins(t, text, at, false)
		}
	}
}

func TestNoTokensAtAll(t *testing.T) {
	for _, l := range [][]api.Token{nil, {}} {
		for _, at := range outside(0) {
			if o, n, f := annot.Owners(l, at, params); f != (api.Fault{Err: api.ErrToken}) || n != 0 || len(o) != 0 {
				t.Errorf("the owners of no tokens at %d are %v, %d, %v", at, o, n, f)
			}
			for _, named := range []bool{false, true} {
				if x, n, f := annot.Parse(l, at, params, named); f != (api.Fault{Err: api.ErrToken}) || n != 0 || x != (api.Type{}) {
					t.Errorf("the type of no tokens at %d is %v, %d, %v", at, x, n, f)
				}
			}
			if v, n, f := annot.Var(l, at, params); f != (api.Fault{Err: api.ErrToken}) || n != 0 || v != (api.Var{}) {
				t.Errorf("the variable of no tokens at %d is %v, %d, %v", at, v, n, f)
			}
			if annot.Begins(l, at) {
				t.Errorf("something begins at %d of no tokens", at)
			}
		}
	}
}

func TestTokensWithoutAnEnd(t *testing.T) {
	l := tokensOf(t, "rep Item<any> x")
	for n, want := range []api.Fault{1: {Err: api.ErrToken, At: 0}, 2: {Err: api.ErrToken, At: 4}, 3: {Err: api.ErrToken, At: 8}, 4: {Err: api.ErrToken, At: 9}, 5: {Err: api.ErrToken, At: 12}, 6: {}} {
		if _, _, f := annot.Var(l[:n], 0, params); n > 0 && f != want {
			t.Errorf("Var of the first %d of %v has the fault %v, want %v", n, l, f, want)
		}
	}
	if o, n, f := annot.Owners(l[2:5], 0, params); f != (api.Fault{}) || n != 3 || !slices.Equal(o, []api.Owner{any0}) {
		t.Errorf("the owners are %v, %d, %v", o, n, f)
	}
	if x, n, f := annot.Parse(l[1:2], 0, params, true); f != (api.Fault{}) || n != 1 || x != sample.Object(hole, "Item") {
		t.Errorf("the type of one token is %v, %d, %v", x, n, f)
	}
	if annot.Begins(l[1:2], 0) || !annot.Begins(l[:1], 0) || !annot.Begins(l[1:3], 0) {
		t.Errorf("what begins is told by what stands behind the list")
	}
}

// 7.3

// wantBack asks that a type is read from its text's tokens, and a name behind them.
func wantBack(t *testing.T, x api.Type, names []string) {
	t.Helper()
	s := kind.Text(x, names)
	l := tokensOf(t, s+" x")
	got, n, f := annot.Parse(l, 0, names, true)
	if s == "" || f != (api.Fault{}) || n != len(l)-2 || got != x {
		t.Fatalf("%v, written %q, comes back as %v, %d, %v", x, s, got, n, f)
	}
	if x.Kind == api.KNone {
		return
	}
	v, n, f := annot.Var(l, 0, names)
	if f != (api.Fault{}) || n != len(l)-1 || v != (api.Var{Name: "x", Type: x}) || !annot.Begins(l, 0) {
		t.Fatalf("a variable of the type %v, written %q, comes back as %v, %d, %v", x, s, v, n, f)
	}
}

func TestTypesComeBack(t *testing.T) {
	names := []string{"data", "key", "x", "Item"}
	behind := []api.Owner{rep, peer, world, any0}
	for i := range names {
		behind = append(behind, api.Owner{Kind: api.OParam, N: i + 1})
	}
	lists := [][]api.Owner{nil}
	for i := 0; i < len(lists) && len(lists[i]) < api.MaxOwners; i++ {
		for _, o := range behind {
			lists = append(lists, append(slices.Clone(lists[i]), o))
		}
	}
	wantBack(t, api.Type{}, names)
	wantBack(t, api.Type{Kind: api.KInt}, names)
	for _, first := range append(slices.Clone(behind), unique, hole) {
		// A class may have the name of a parameter, or of the variable.
		for _, class := range []string{"List", "data", "x", strings.Repeat("Z", api.MaxName)} {
			for _, l := range lists {
				wantBack(t, sample.Object(first, class, l...), names)
			}
		}
	}
	for _, none := range [][]string{nil, {}} {
		wantBack(t, sample.Object(hole, "Item"), none)
		wantBack(t, sample.Object(rep, "Item", any0, world), none)
		wantBack(t, sample.Object(unique, "Item", peer), none)
	}
}

// What is handed in

func TestWhatIsHandedInStays(t *testing.T) {
	spare := api.Token{Kind: api.TName, Text: "spare", At: 77}
	names := append(slices.Clone(params), "room", "room")[:2]
	for _, text := range []string{"", "void", "int x", "data Item x", "<rep, data, any>", "rep Item<rep, data, any> x", "Item<rep, other>", "<rep, rep, rep, rep>", "Item <"} {
		room := append(tokensOf(t, text), spare, spare, spare)
		before := slices.Clone(room)
		l := room[:len(room)-3]
		for at := -2; at < len(l)+2; at++ {
			annot.Owners(l, at, names)
			annot.Parse(l, at, names, false)
			annot.Parse(l, at, names, true)
			annot.Var(l, at, names)
			annot.Begins(l, at)
		}
		if !slices.Equal(room, before) {
			t.Errorf("%v was %v before", room, before)
		}
	}
	if !slices.Equal(names[:4], []string{"data", "key", "room", "room"}) {
		t.Errorf("the parameters have become %q", names[:4])
	}
}

func TestAnswersShareNothing(t *testing.T) {
	l, names := tokensOf(t, "<rep, data, any>"), slices.Clone(params)
	first, _, _ := annot.Owners(l, 0, names)
	second, _, _ := annot.Owners(l, 0, names)
	first[0], first[1], first[2] = unique, unique, unique
	l[1], names[0] = api.Token{}, "other"
	if !slices.Equal(second, []api.Owner{rep, data, any0}) {
		t.Errorf("another answer has become %v", second)
	}
}

func TestAnswersHangOnTheArgumentsAlone(t *testing.T) {
	for range 3 {
		wantOwners(t, "<rep, data>", 0, params, 5, rep, data)
		wantNoOwners(t, "<other>", 0, api.ErrOwner, 1)
		wantOwners(t, "<other>", 0, []string{"x", "other"}, 3, key)
		wantBoth(t, "data Item<key> x", sample.Object(data, "Item", key), 5)
	}
}

func TestTokensThatNoTextHas(t *testing.T) {
	kinds := []int{math.MinInt, -1, api.TEnd, api.TName, api.TNumber, api.TWord, api.TSign, 5, math.MaxInt}
	texts := []string{"", "data", "Item", "1", "<", ">", ",", "rep", "unique", "void", "int", "this", "?", "\x00"}
	var all []api.Token
	for _, k := range kinds {
		for _, s := range texts {
			all = append(all, api.Token{Kind: k, Text: s, At: -len(all)})
		}
	}
	try := func(l []api.Token) {
		annot.Owners(l, 0, params)
		annot.Parse(l, 0, params, false)
		annot.Parse(l, 0, params, true)
		annot.Var(l, 0, params)
		annot.Begins(l, 0)
	}
	for _, a := range all {
		for _, b := range all {
			try([]api.Token{a, b, a, b, b, a, a})
		}
		try(slices.Repeat([]api.Token{a}, 1000))
	}
}

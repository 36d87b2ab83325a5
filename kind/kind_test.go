package kind_test

import (
	"math"
	"slices"
	"strings"
	"testing"

	"demesne/api"
	"demesne/kind"
	"demesne/owner"
)

var (
	rep    = own(api.ORep, 0)
	peer   = own(api.OPeer, 0)
	world  = own(api.OWorld, 0)
	any0   = own(api.OAny, 0)
	unique = own(api.OUnique, 0)
	hidden = own(api.OHidden, 0)

	void   = api.Type{Kind: api.KNone}
	number = api.Type{Kind: api.KInt}
)

// noKinds are kinds of types that are written nowhere: null's, and those that there are none of.
var noKinds = []int{api.KNull, 4, 5, 77, 256 + api.KObject, -1, -api.KObject, math.MinInt, math.MaxInt}

// numbers are what an N is tried with: the edges, and what lies about them.
var numbers = []int{math.MinInt, math.MinInt + 1, -77, -2, -1, 0, 1, 2, 3, 4, 5, 77, math.MaxInt - 1, math.MaxInt}

// noNames are texts that may name no class.
var noNames = []string{
	"", " ", "1", "1a", "a b", " a", "a ", "a_b", "_", "a.b", "A<b>", "\x00", "a\x00", "\xff", "é", "aé",
	strings.Repeat("a", api.MaxName+1),
	"class", "extends", "rep", "peer", "world", "any", "unique", "pure", "void", "int", "if", "else", "while",
	"return", "new", "move", "delete", "this", "null", "input", "nil", "same", "cast",
}

func own(kind, n int) api.Owner { return api.Owner{Kind: kind, N: n} }

func param(n int) api.Owner { return own(api.OParam, n) }

func hole(n int) api.Owner { return own(api.OHole, n) }

// object is the type of an object of a class, with its owner, and those behind the class.
func object(class string, first api.Owner, others ...api.Owner) api.Type {
	t := api.Type{Kind: api.KObject, Class: class, N: len(others)}
	t.Own[0] = first
	copy(t.Own[1:], others)
	return t
}

// everyOwner are all owners of each kind, and of kinds that there are none of, with each of the numbers.
func everyOwner() []api.Owner {
	var l []api.Owner
	for _, k := range []int{0, 1, 2, 3, 4, 5, 6, 7, 8, 9, -1, math.MinInt, math.MaxInt} {
		for _, n := range numbers {
			l = append(l, own(k, n))
		}
	}
	return l
}

// spoilt are a type's neighbours: with one of what it has made another one.
func spoilt(t api.Type) []api.Type {
	var l []api.Type
	for _, class := range []string{"a", "List", "rep", "?", "\x00"} {
		u := t
		u.Class = class
		l = append(l, u)
	}
	for _, n := range numbers {
		u := t
		u.N = n
		l = append(l, u)
	}
	for i := range t.Own {
		for _, o := range everyOwner() {
			u := t
			u.Own[i] = o
			l = append(l, u)
		}
	}
	return slices.DeleteFunc(l, func(u api.Type) bool { return u == t })
}

func wantRight(t *testing.T, x api.Type, params int, want bool) {
	t.Helper()
	if got := kind.Right(x, params); got != want {
		t.Errorf("Right(%v, %d) = %v, want %v", x, params, got, want)
	}
}

func wantText(t *testing.T, x api.Type, params []string, want string) {
	t.Helper()
	if got := kind.Text(x, params); got != want {
		t.Errorf("Text(%v, %q) = %q, want %q", x, params, got, want)
	}
}

func wantOwners(t *testing.T, x api.Type, want ...api.Owner) {
	t.Helper()
	if got := kind.Owners(x); !slices.Equal(got, want) {
		t.Errorf("Owners(%v) = %v, want %v", x, got, want)
	}
}

func wantHoles(t *testing.T, x api.Type, want int) {
	t.Helper()
	if got := kind.Holes(x); got != want {
		t.Errorf("Holes(%v) = %d, want %d", x, got, want)
	}
}

func wantUnique(t *testing.T, x api.Type, want bool) {
	t.Helper()
	if got := kind.Unique(x); got != want {
		t.Errorf("Unique(%v) = %v, want %v", x, got, want)
	}
}

func wantWith(t *testing.T, x api.Type, l []api.Owner, want api.Type) {
	t.Helper()
	if got := kind.With(x, l); got != want {
		t.Errorf("With(%v, %v) = %v, want %v", x, l, got, want)
	}
}

// 5.1 Right

func TestNothingAndNumbersMayBe(t *testing.T) {
	for _, params := range numbers {
		wantRight(t, void, params, true)
		wantRight(t, number, params, true)
	}
}

func TestNothingAndNumbersHaveNothingElseInThem(t *testing.T) {
	for _, plain := range []api.Type{void, number} {
		for _, x := range spoilt(plain) {
			for _, params := range []int{0, 1, 3} {
				wantRight(t, x, params, false)
			}
		}
		x := object("List", rep, world)
		x.Kind = plain.Kind
		wantRight(t, x, 1, false)
	}
}

func TestTypesOfOtherKindsMayNotBe(t *testing.T) {
	for _, k := range noKinds {
		for _, x := range []api.Type{{}, object("List", rep), object("List", rep, world)} {
			x.Kind = k
			for _, params := range numbers {
				wantRight(t, x, params, false)
			}
		}
	}
}

func TestAnObjectsClassIsAName(t *testing.T) {
	for _, class := range []string{"a", "Z", "List", "A1", "rep1", "Class", "world2", "names", "Int", strings.Repeat("a", api.MaxName)} {
		wantRight(t, object(class, rep), 0, true)
		wantRight(t, object(class, param(1), world), 1, true)
	}
	for _, class := range noNames {
		wantRight(t, object(class, rep), 0, false)
		wantRight(t, object(class, param(1), world), 1, false)
	}
}

func TestAnObjectHasUpToThreeOwnersBehindItsClass(t *testing.T) {
	for n := range 4 {
		x := object("A", rep, []api.Owner{peer, world, any0}[:n]...)
		for _, m := range numbers {
			x.N = m
			wantRight(t, x, 0, m == n)
		}
	}
}

func TestAnObjectsOwnersAreOwnersThatMayBe(t *testing.T) {
	for n := range 4 {
		for at := range n + 1 {
			for _, o := range everyOwner() {
				for _, params := range []int{math.MinInt, -1, 0, 1, 2, 3, 77, math.MaxInt} {
					x := object("A", world, []api.Owner{rep, any0, hole(2)}[:n]...)
					x.Own[at] = o
					wantRight(t, x, params, owner.Right(o, params) && (at == 0 || o.Kind != api.OUnique))
				}
			}
		}
	}
}

func TestNoOwnerBehindTheClassIsUnique(t *testing.T) {
	wantRight(t, object("A", unique), 0, true)
	wantRight(t, object("A", unique, world, world, world), 0, true)
	wantRight(t, object("A", unique, unique), 0, false)
	wantRight(t, object("A", rep, unique), 0, false)
	wantRight(t, object("A", rep, unique, world), 0, false)
	wantRight(t, object("A", rep, world, unique), 0, false)
	wantRight(t, object("A", rep, world, world, unique), 0, false)
}

func TestWhatIsBehindAnObjectsOwnersIsZero(t *testing.T) {
	for n := range 4 {
		x := object("A", rep, []api.Owner{peer, world, hole(0)}[:n]...)
		wantRight(t, x, 0, true)
		for at := n + 1; at < 4; at++ {
			for _, o := range everyOwner() {
				y := x
				y.Own[at] = o
				wantRight(t, y, 3, o == api.Owner{})
			}
		}
	}
}

func TestAnObjectHasAnOwner(t *testing.T) {
	wantRight(t, api.Type{Kind: api.KObject, Class: "A"}, 0, false)
	wantRight(t, object("A", api.Owner{}, rep), 0, false)
	wantRight(t, object("A", hidden), 0, false)
	wantRight(t, object("A", rep, hidden), 0, false)
	wantRight(t, object("A", rep, api.Owner{}), 0, false)
}

func TestParametersMayBeAsFarAsThereAreSome(t *testing.T) {
	for params := range 5 {
		for n := range 6 {
			want := 1 <= n && n <= params
			wantRight(t, object("A", param(n)), params, want)
			wantRight(t, object("A", rep, param(n)), params, want)
			wantRight(t, object("A", rep, world, world, param(n)), params, want)
		}
	}
	wantRight(t, object("A", param(1)), -1, false)
	wantRight(t, object("A", param(-1)), -1, false)
}

// 5.1 Text

func TestTextExampleOfTheChapter(t *testing.T) {
	wantText(t, object("List", rep, param(1)), []string{"data"}, "rep List<data>")
}

func TestTextOfNothingAndNumbers(t *testing.T) {
	for _, params := range [][]string{nil, {}, {"data"}, {"a", "b", "c"}, {"void", "int"}} {
		wantText(t, void, params, "void")
		wantText(t, number, params, "int")
	}
}

func TestTextOfAnObject(t *testing.T) {
	params := []string{"data", "link", "x"}
	wantText(t, object("A", rep), nil, "rep A")
	wantText(t, object("A", peer), nil, "peer A")
	wantText(t, object("A", world), nil, "world A")
	wantText(t, object("A", any0), nil, "any A")
	wantText(t, object("A", unique), nil, "unique A")
	wantText(t, object("Item", param(1)), params, "data Item")
	wantText(t, object("Item", param(3)), params, "x Item")
	wantText(t, object("List", rep, world), nil, "rep List<world>")
	wantText(t, object("List", rep, peer, any0), nil, "rep List<peer, any>")
	wantText(t, object("List", unique, world, world, world), nil, "unique List<world, world, world>")
	wantText(t, object("List", param(2), param(3), param(1), param(2)), params, "link List<x, data, link>")
	wantText(t, object("x", param(3), param(3)), params, "x x<x>")
}

func TestTextOfAHoleAheadOfTheClassIsLeftOut(t *testing.T) {
	for _, n := range []int{0, 1, 7, math.MaxInt} {
		wantText(t, object("List", hole(n)), nil, "List")
		wantText(t, object("List", hole(n), rep), nil, "List<rep>")
		wantText(t, object("List", hole(n), param(1), world), []string{"data"}, "List<data, world>")
	}
}

func TestTextOfAHoleBehindTheClassIsAQuestionMark(t *testing.T) {
	for _, n := range []int{0, 1, 7, math.MaxInt} {
		wantText(t, object("List", rep, hole(n)), nil, "rep List<?>")
		wantText(t, object("List", peer, rep, hole(n)), nil, "peer List<rep, ?>")
		wantText(t, object("List", peer, hole(n), rep), nil, "peer List<?, rep>")
		wantText(t, object("List", hole(0), hole(n), hole(n), hole(n)), nil, "List<?, ?, ?>")
	}
}

func TestTextAsksParametersAsTheyStand(t *testing.T) {
	wantText(t, object("A", param(1), param(2)), []string{"", "rep"}, " A<rep>")
	wantText(t, object("A", param(2), param(1), param(1)), []string{"", "\xff\x00"}, "\xff\x00 A<, >")
	wantText(t, object("A", param(1), param(2)), []string{"a", "a"}, "a A<a>")
}

func TestTextOfWhatMayNotBeIsNone(t *testing.T) {
	params := []string{"a", "b"}
	for _, x := range []api.Type{void, number, object("List", rep), object("List", param(1), world), object("List", hole(0), rep, param(2), world)} {
		for _, y := range spoilt(x) {
			if !kind.Right(y, 2) {
				wantText(t, y, params, "")
			} else if kind.Text(y, params) == "" {
				t.Errorf("Text(%v, %q) is none", y, params)
			}
		}
	}
	wantText(t, api.Type{Kind: api.KNone, N: 1}, nil, "")
	wantText(t, api.Type{Kind: api.KInt, Class: "A"}, nil, "")
	wantText(t, object("A", rep, unique), nil, "")
	wantText(t, object("A", param(1)), nil, "")
	wantText(t, object("A", rep, param(3)), params, "")
	wantText(t, object("A", hole(-1)), params, "")
	wantText(t, object("A", rep, hole(-1)), params, "")
	wantText(t, object("rep", rep), params, "")
	for _, k := range noKinds {
		wantText(t, api.Type{Kind: k}, params, "")
		x := object("A", rep)
		x.Kind = k
		wantText(t, x, params, "")
	}
	for _, class := range noNames {
		wantText(t, object(class, rep), params, "")
	}
}

// 5.2 Owners

func TestOwnersOfAnObject(t *testing.T) {
	wantOwners(t, object("A", rep), rep)
	wantOwners(t, object("A", hole(0), world), hole(0), world)
	wantOwners(t, object("A", rep, peer, param(2)), rep, peer, param(2))
	wantOwners(t, object("A", unique, world, hole(1), any0), unique, world, hole(1), any0)
}

func TestOwnersCountsNFromNoughtToThree(t *testing.T) {
	x := api.Type{Kind: api.KObject, Class: "A", Own: [4]api.Owner{rep, peer, world, hidden}}
	for _, n := range numbers {
		x.N = n
		wantOwners(t, x, x.Own[:1+min(max(n, 0), 3)]...)
	}
	x.N = -1
	wantOwners(t, x, rep)
	x.N = math.MinInt
	wantOwners(t, x, rep)
	x.N = 4
	wantOwners(t, x, rep, peer, world, hidden)
	x.N = math.MaxInt
	wantOwners(t, x, rep, peer, world, hidden)
}

func TestOwnersAreToldAsTheyStand(t *testing.T) {
	// Of an object's type that may not be they are told, too.
	wantOwners(t, api.Type{Kind: api.KObject}, api.Owner{})
	wantOwners(t, api.Type{Kind: api.KObject, Class: "rep", N: 2}, api.Owner{}, api.Owner{}, api.Owner{})
	for _, o := range everyOwner() {
		wantOwners(t, object("", o, hidden, o), o, hidden, o)
	}
}

func TestOwnersOfOtherTypesAreNone(t *testing.T) {
	for _, k := range append([]int{api.KNone, api.KInt}, noKinds...) {
		for _, n := range numbers {
			wantOwners(t, api.Type{Kind: k, Class: "A", N: n, Own: [4]api.Owner{rep, peer, world, any0}})
		}
		wantOwners(t, api.Type{Kind: k})
	}
}

// 5.2 Holes

func TestHolesAreCounted(t *testing.T) {
	wantHoles(t, object("A", rep), 0)
	wantHoles(t, object("A", hole(0)), 1)
	wantHoles(t, object("A", rep, hole(5)), 1)
	wantHoles(t, object("A", hole(3), hole(3)), 2)
	wantHoles(t, object("A", hole(0), world, hole(1)), 2)
	wantHoles(t, object("A", hole(0), hole(1), hole(2), hole(3)), 4)
	wantHoles(t, object("A", rep, peer, world, param(1)), 0)
}

func TestHolesAreThoseOfTheKind(t *testing.T) {
	for _, o := range everyOwner() {
		want := 0
		if o.Kind == api.OHole {
			want = 1
		}
		wantHoles(t, object("A", o), want)
		wantHoles(t, object("", rep, world, world, o), want)
	}
}

func TestHolesAreAmongTheOwnersAlone(t *testing.T) {
	x := api.Type{Kind: api.KObject, Class: "A", Own: [4]api.Owner{hole(0), hole(1), hole(2), hole(3)}}
	for _, n := range numbers {
		x.N = n
		wantHoles(t, x, 1+min(max(n, 0), 3))
	}
	for _, k := range append([]int{api.KNone, api.KInt}, noKinds...) {
		x.Kind, x.N = k, 3
		wantHoles(t, x, 0)
	}
}

// 5.2 Unique

func TestUniqueAsksTheFirstOwner(t *testing.T) {
	for _, o := range everyOwner() {
		wantUnique(t, object("A", o), o.Kind == api.OUnique)
		wantUnique(t, object("", o, world, unique, rep), o.Kind == api.OUnique)
		wantUnique(t, object("A", rep, o, o, o), false)
	}
}

func TestUniqueIsAnObjectAlone(t *testing.T) {
	wantUnique(t, void, false)
	wantUnique(t, number, false)
	for _, k := range append([]int{api.KNone, api.KInt}, noKinds...) {
		for _, n := range numbers {
			wantUnique(t, api.Type{Kind: k, Class: "A", N: n, Own: [4]api.Owner{unique, unique}}, false)
		}
	}
	for _, n := range numbers {
		wantUnique(t, api.Type{Kind: api.KObject, Class: "A", N: n, Own: [4]api.Owner{unique}}, true)
	}
}

// 5.2 With

func TestWithPutsEachOwner(t *testing.T) {
	l := []api.Owner{world, rep, any0}
	wantWith(t, object("A", peer), l, object("A", world))
	wantWith(t, object("A", param(1)), l, object("A", rep))
	wantWith(t, object("A", rep, param(2), peer, param(1)), l, object("A", rep, any0, world, rep))
	wantWith(t, object("A", unique, world, any0, hole(4)), l, object("A", unique, world, any0, hole(4)))
	wantWith(t, object("A", hidden, param(0)), l, object("A", hidden, world))
	// What stands in the list is not put for it once more.
	wantWith(t, object("A", peer, param(1)), []api.Owner{param(1), peer}, object("A", param(1), peer))
}

func TestWithListsOfAllLengths(t *testing.T) {
	x := object("A", peer, param(1), param(2), param(3))
	l := []api.Owner{world, rep, unique, hole(3), any0, any0}
	for size := range len(l) + 1 {
		want := object("A", hidden, hidden, hidden, hidden)
		copy(want.Own[:], l[:size])
		wantWith(t, x, l[:size], want)
	}
	wantWith(t, x, nil, object("A", hidden, hidden, hidden, hidden))
	wantWith(t, object("A", rep, param(1)), nil, object("A", rep, hidden))
	wantWith(t, object("A", param(2), world), []api.Owner{rep, rep}, object("A", hidden, world))
	wantWith(t, object("A", rep, world), nil, object("A", rep, world))
	wantWith(t, object("A", param(-1), param(math.MaxInt), param(math.MinInt)), l, object("A", hidden, hidden, hidden))
}

func TestWithIsEachOwnersPut(t *testing.T) {
	lists := [][]api.Owner{nil, {world}, {param(1), peer}, {hidden, unique, hole(2), param(9), rep}}
	for _, o := range everyOwner() {
		for _, l := range lists {
			for at := range 4 {
				x := object("A", rep, peer, param(1), param(2))
				x.Own[at] = o
				want := x
				for i := range want.Own {
					want.Own[i] = owner.Put(x.Own[i], l)
				}
				wantWith(t, x, l, want)
			}
		}
	}
}

func TestWithLeavesAllElse(t *testing.T) {
	l := []api.Owner{world, rep}
	for _, n := range numbers {
		for _, class := range []string{"", "A", "rep"} {
			// What is behind the owners is none of the type's owners.
			x := api.Type{Kind: api.KObject, Class: class, N: n, Own: [4]api.Owner{peer, param(1), peer, param(1)}}
			want := x
			copy(want.Own[:1+min(max(n, 0), 3)], []api.Owner{world, rep, world, rep})
			wantWith(t, x, l, want)
		}
	}
	wantWith(t, object("A", peer), l, object("A", world))
}

func TestWithOfOtherKindsIsTheTypeAsItIs(t *testing.T) {
	for _, k := range append([]int{api.KNone, api.KInt}, noKinds...) {
		for _, n := range numbers {
			x := api.Type{Kind: k, Class: "A", N: n, Own: [4]api.Owner{peer, param(1), peer, hole(1)}}
			for _, l := range [][]api.Owner{nil, {world}, {world, rep, any0}} {
				wantWith(t, x, l, x)
			}
		}
		wantWith(t, api.Type{Kind: k}, []api.Owner{rep}, api.Type{Kind: k})
	}
}

// 5.3

// tried are owners to make types of: each kind that may be but holes, and some that may not be.
var tried = []api.Owner{{}, rep, peer, param(0), param(1), param(2), param(3), world, any0, unique, own(api.ORep, 1), hidden}

// types are nothing, a number, and objects of a few classes with each of tried as owners, up to two behind the class and some with three.
func types() []api.Type {
	l := []api.Type{void, number}
	for _, class := range []string{"A", "AA", "B", "a", "ab", "b1", "rep", "Void"} {
		for _, a := range tried {
			l = append(l, object(class, a))
			for _, b := range tried {
				l = append(l, object(class, a, b))
				for _, c := range tried {
					l = append(l, object(class, a, b, c))
				}
				l = append(l, object(class, a, b, b, a), object(class, a, a, b, b), object(class, b, a, world, a))
			}
		}
	}
	return l
}

func TestUnlikeTypesWithoutHolesHaveUnlikeTexts(t *testing.T) {
	for _, params := range [][]string{nil, {"a"}, {"a", "ab"}, {"b1", "A", "AA"}, {"Void", "reps", "worlds"}} {
		met := map[string]api.Type{}
		for _, x := range types() {
			if !kind.Right(x, len(params)) {
				continue
			}
			text := kind.Text(x, params)
			if y, is := met[text]; is && y != x {
				t.Errorf("with %q both %v and %v are %q", params, x, y, text)
			}
			if text != kind.Text(x, slices.Clone(params)) {
				t.Errorf("Text(%v, %q) is one thing and then another one", x, params)
			}
			met[text] = x
		}
		if len(met) < 100 {
			t.Errorf("with %q %d texts alone", params, len(met))
		}
	}
}

// read tells the type that a text without holes says, cut at its blanks and signs.
func read(text string, params []string) api.Type {
	owners := map[string]api.Owner{"rep": rep, "peer": peer, "world": world, "any": any0, "unique": unique}
	for i, p := range params {
		owners[p] = param(i + 1)
	}
	switch text {
	case "void":
		return void
	case "int":
		return number
	}
	first, rest, _ := strings.Cut(text, " ")
	class, rest, more := strings.Cut(rest, "<")
	var others []api.Owner
	if more {
		for _, o := range strings.Split(strings.TrimSuffix(rest, ">"), ", ") {
			others = append(others, owners[o])
		}
	}
	return object(class, owners[first], others...)
}

func TestATypeWithoutHolesComesBackFromItsText(t *testing.T) {
	for _, params := range [][]string{nil, {"a"}, {"x", "A", "data"}} {
		for _, x := range types() {
			if text := kind.Text(x, params); text != "" {
				if got := read(text, params); got != x {
					t.Errorf("%v is %q with %q, which says %v", x, text, params, got)
				}
			}
		}
	}
}

// R4: what is handed in is not changed and not kept.

func TestWhatIsHandedInStays(t *testing.T) {
	l, params := []api.Owner{world, rep, any0, param(1)}, []string{"a", "b", "c", "d"}
	x := object("A", peer, param(1), hole(0), param(2))
	keptL, keptParams, keptX := slices.Clone(l), slices.Clone(params), x
	// A list's room behind its end belongs to whoever handed it in.
	for size := range len(l) + 1 {
		kind.Right(x, size)
		kind.Text(x, params[:size])
		kind.With(x, l[:size])
	}
	kind.Owners(x)
	kind.Holes(x)
	kind.Unique(x)
	if !slices.Equal(l, keptL) || !slices.Equal(params, keptParams) || x != keptX {
		t.Errorf("%v, %q, %v have become %v, %q, %v", keptL, keptParams, keptX, l, params, x)
	}
}

func TestOwnersAreOfNewMemory(t *testing.T) {
	x := object("A", rep, peer)
	first, second := kind.Owners(x), kind.Owners(x)
	third := append(first, hidden)
	for i := range first {
		first[i] = hidden
	}
	if third = append(third, hidden); len(third) != 4 {
		t.Errorf("%v and two more are %v", first, third)
	}
	wantOwners(t, x, rep, peer)
	if !slices.Equal(second, []api.Owner{rep, peer}) || x != object("A", rep, peer) {
		t.Errorf("what is written into an answer stands in %v, %v", second, x)
	}
	x.Own[0] = world
	if !slices.Equal(second, []api.Owner{rep, peer}) {
		t.Errorf("what is written into a type stands in %v", second)
	}
}

func TestOwnersHaveNoRoomBehindThem(t *testing.T) {
	// Who adds to an answer twice has two lists, and not one that was written over.
	for n := range 3 {
		l := kind.Owners(object("A", rep, []api.Owner{peer, world}[:n]...))
		one, other := append(l, any0), append(l, unique)
		if one[n+1] != any0 || other[n+1] != unique {
			t.Errorf("of %d owners behind the class: %v, %v", n, one, other)
		}
	}
}

package owner_test

import (
	"math"
	"slices"
	"strings"
	"testing"

	"demesne/api"
	"demesne/owner"
)

var (
	rep    = own(api.ORep, 0)
	peer   = own(api.OPeer, 0)
	world  = own(api.OWorld, 0)
	any0   = own(api.OAny, 0)
	unique = own(api.OUnique, 0)
	hidden = own(api.OHidden, 0)
)

// plain are the kinds of owners that have no number, each with how it is written.
var plain = map[int]string{api.ORep: "rep", api.OPeer: "peer", api.OWorld: "world", api.OAny: "any", api.OUnique: "unique"}

// never are kinds that may not be: none, hidden, and those that there are none of.
var never = []int{api.ONone, api.OHidden, 9, 10, 77, 256 + api.ORep, -1, -api.ORep, math.MinInt, math.MaxInt}

// numbers are what an owner's N is tried with: the edges, and what lies about them.
var numbers = []int{math.MinInt, math.MinInt + 1, -77, -2, -1, 0, 1, 2, 3, 4, 5, 77, math.MaxInt - 1, math.MaxInt}

func own(kind, n int) api.Owner { return api.Owner{Kind: kind, N: n} }

func param(n int) api.Owner { return own(api.OParam, n) }

func hole(n int) api.Owner { return own(api.OHole, n) }

// owners are all owners of each kind, and of kinds that there are none of, with each of the numbers.
func owners(numbers []int) []api.Owner {
	var l []api.Owner
	for kind := api.ONone; kind <= api.OHidden; kind++ {
		for _, n := range numbers {
			l = append(l, own(kind, n))
		}
	}
	for _, kind := range []int{math.MinInt, -1, 9, math.MaxInt} {
		for _, n := range numbers {
			l = append(l, own(kind, n))
		}
	}
	return l
}

func wantRight(t *testing.T, o api.Owner, params int, want bool) {
	t.Helper()
	if got := owner.Right(o, params); got != want {
		t.Errorf("Right(%v, %d) = %v, want %v", o, params, got, want)
	}
}

func wantText(t *testing.T, o api.Owner, params []string, want string) {
	t.Helper()
	if got := owner.Text(o, params); got != want {
		t.Errorf("Text(%v, %q) = %q, want %q", o, params, got, want)
	}
}

func wantFind(t *testing.T, name string, params []string, want int) {
	t.Helper()
	if got := owner.Find(name, params); got != want {
		t.Errorf("Find(%q, %q) = %d, want %d", name, params, got, want)
	}
}

func wantOrder(t *testing.T, a, b api.Owner, want int) {
	t.Helper()
	if got := owner.Order(a, b); got != want {
		t.Errorf("Order(%v, %v) = %d, want %d", a, b, got, want)
	}
}

func wantPut(t *testing.T, o api.Owner, l []api.Owner, want api.Owner) {
	t.Helper()
	if got := owner.Put(o, l); got != want {
		t.Errorf("Put(%v, %v) = %v, want %v", o, l, got, want)
	}
}

func wantAll(t *testing.T, l, m, want []api.Owner) {
	t.Helper()
	if got := owner.All(l, m); !slices.Equal(got, want) {
		t.Errorf("All(%v, %v) = %v, want %v", l, m, got, want)
	}
}

// 4.1 Right

func TestOwnersWithoutNumberMayBeWithNought(t *testing.T) {
	for kind := range plain {
		for _, n := range numbers {
			for _, params := range numbers {
				wantRight(t, own(kind, n), params, n == 0)
			}
		}
	}
}

func TestParametersMayBeFromOneUpToAsManyAsThereAre(t *testing.T) {
	for params := range 6 {
		for n := 1; n <= params; n++ {
			wantRight(t, param(n), params, true)
		}
		for _, n := range []int{0, params + 1, params + 2, params + 77, -1, -params, math.MinInt, math.MaxInt} {
			wantRight(t, param(n), params, false)
		}
	}
	wantRight(t, param(1), 0, false)
	wantRight(t, param(1), 1, true)
	wantRight(t, param(3), 3, true)
	wantRight(t, param(4), 3, false)
	wantRight(t, param(4), 4, true)
	wantRight(t, param(math.MaxInt), math.MaxInt, true)
	wantRight(t, param(math.MaxInt), math.MaxInt-1, false)
	wantRight(t, param(math.MinInt), math.MaxInt, false)
}

func TestNoParameterMayBeWhereThereAreNone(t *testing.T) {
	for _, params := range []int{0, -1, -2, -77, math.MinInt} {
		for _, n := range numbers {
			wantRight(t, param(n), params, false)
		}
	}
}

func TestHolesMayBeFromNoughtOn(t *testing.T) {
	for _, n := range numbers {
		for _, params := range numbers {
			wantRight(t, hole(n), params, n >= 0)
		}
	}
}

func TestOtherKindsMayNeverBe(t *testing.T) {
	for _, kind := range never {
		for _, n := range numbers {
			for _, params := range numbers {
				wantRight(t, own(kind, n), params, false)
			}
		}
	}
}

// 4.1 Text

func TestTextOfOwnersWithoutNumber(t *testing.T) {
	for kind, text := range plain {
		wantText(t, own(kind, 0), nil, text)
		wantText(t, own(kind, 0), []string{"a"}, text)
		wantText(t, own(kind, 0), []string{"a", "b", "c", "d"}, text)
	}
}

func TestTextOfParametersIsTheirName(t *testing.T) {
	params := []string{"data", "owner1", "x"}
	for i, name := range params {
		wantText(t, param(i+1), params, name)
	}
	wantText(t, param(1), []string{"a"}, "a")
	wantText(t, param(4), []string{"a", "b", "c", "d"}, "d")
	// A name is written as it stands, whatever it is.
	for _, name := range []string{"", " ", "rep", "?", "9", "a b", "\xff\x00", strings.Repeat("x", 77)} {
		wantText(t, param(2), []string{"a", name}, name)
	}
	// Of names that stand twice each number has its own.
	wantText(t, param(1), []string{"a", "b", "a"}, "a")
	wantText(t, param(2), []string{"a", "b", "a"}, "b")
	wantText(t, param(3), []string{"a", "b", "a"}, "a")
}

func TestTextOfParametersThatThereAreNoneOf(t *testing.T) {
	for _, n := range numbers {
		wantText(t, param(n), nil, "")
		wantText(t, param(n), []string{}, "")
	}
	for _, n := range []int{math.MinInt, -3, -1, 0, 4, 5, math.MaxInt} {
		wantText(t, param(n), []string{"a", "b", "c"}, "")
	}
	// What lies behind a list's end is none of it.
	wantText(t, param(2), []string{"a", "b"}[:1], "")
}

func TestTextOfHolesIsAQuestionMark(t *testing.T) {
	for _, n := range numbers {
		want := "?"
		if n < 0 {
			want = ""
		}
		for _, params := range [][]string{nil, {"a"}, {"a", "b", "c"}} {
			wantText(t, hole(n), params, want)
		}
	}
}

func TestTextOfOwnersThatMayNotBeIsNothing(t *testing.T) {
	params := []string{"a", "b", "c"}
	for _, kind := range never {
		for _, n := range numbers {
			wantText(t, own(kind, n), nil, "")
			wantText(t, own(kind, n), params, "")
		}
	}
	for kind := range plain {
		for _, n := range numbers {
			if n != 0 {
				wantText(t, own(kind, n), nil, "")
				wantText(t, own(kind, n), params, "")
			}
		}
	}
}

func TestTextStandsJustWhereAnOwnerMayBe(t *testing.T) {
	for _, params := range [][]string{nil, {"a"}, {"a", "b"}, {"a", "b", "c"}} {
		for _, o := range owners(numbers) {
			if got := owner.Text(o, params); (got != "") != owner.Right(o, len(params)) {
				t.Errorf("Text(%v, %q) = %q", o, params, got)
			}
		}
	}
}

// 4.1 Find

func TestFindTellsTheNumberOfAName(t *testing.T) {
	params := []string{"data", "x", "owner1", "y"}
	for i, name := range params {
		wantFind(t, name, params, i+1)
	}
	wantFind(t, "a", []string{"a"}, 1)
}

func TestFindTellsTheFirstOfNamesThatStandTwice(t *testing.T) {
	params := []string{"a", "b", "b", "a", "c", "b"}
	wantFind(t, "a", params, 1)
	wantFind(t, "b", params, 2)
	wantFind(t, "c", params, 5)
	wantFind(t, "a", []string{"a", "a", "a"}, 1)
}

func TestFindOfANameThatIsNoneOfThem(t *testing.T) {
	for _, name := range []string{"", "a", "rep", "Data", "dat", "data1", " data", "x\x00", "data, x"} {
		wantFind(t, name, nil, 0)
		wantFind(t, name, []string{}, 0)
		wantFind(t, name, []string{"data", "x"}, 0)
	}
	wantFind(t, "b", []string{"a", "b"}[:1], 0)
}

func TestFindAsksTextsAsTheyStand(t *testing.T) {
	wantFind(t, "", []string{"a", ""}, 2)
	wantFind(t, "rep", []string{"a", "rep"}, 2)
	wantFind(t, "\xff", []string{"\xfe", "\xff"}, 2)
	wantFind(t, "x", []string{"X", "xx", "x"}, 3)
}

func TestFindAndTextAreEachOthersBack(t *testing.T) {
	params := []string{"a", "b", "c"}
	for _, name := range params {
		wantText(t, param(owner.Find(name, params)), params, name)
	}
	wantText(t, param(owner.Find("d", params)), params, "")
}

// 4.1 Order

func TestOrderAsksKindsFirst(t *testing.T) {
	for a := api.ONone; a <= api.OHidden; a++ {
		for b := a + 1; b <= api.OHidden; b++ {
			for _, n := range numbers {
				wantOrder(t, own(a, n), own(b, 0), -1)
				wantOrder(t, own(b, 0), own(a, n), 1)
				wantOrder(t, own(a, 0), own(b, n), -1)
				wantOrder(t, own(b, n), own(a, 0), 1)
			}
		}
	}
}

func TestOrderOfOneKindAsksNumbers(t *testing.T) {
	for _, kind := range []int{api.ONone, api.ORep, api.OPeer, api.OParam, api.OWorld, api.OAny, api.OUnique, api.OHole, api.OHidden, -1, 9, math.MinInt, math.MaxInt} {
		for i, n := range numbers {
			wantOrder(t, own(kind, n), own(kind, n), 0)
			for _, m := range numbers[i+1:] {
				wantOrder(t, own(kind, n), own(kind, m), -1)
				wantOrder(t, own(kind, m), own(kind, n), 1)
			}
		}
	}
}

func TestOrderOfKindsThatThereAreNoneOf(t *testing.T) {
	wantOrder(t, own(-1, 5), own(api.ONone, 0), -1)
	wantOrder(t, own(9, 0), own(api.OHidden, 5), 1)
	wantOrder(t, own(math.MinInt, 0), own(math.MaxInt, 0), -1)
	wantOrder(t, own(math.MaxInt, 0), own(math.MinInt, 0), 1)
	wantOrder(t, own(math.MinInt, math.MaxInt), own(-1, math.MinInt), -1)
}

// 4.2 Put

func TestPutExampleOfTheChapter(t *testing.T) {
	wantPut(t, param(1), []api.Owner{rep, world}, world)
	wantPut(t, param(1), []api.Owner{rep}, hidden)
}

func TestPutForPeerIsTheFirstElement(t *testing.T) {
	for _, o := range owners(numbers) {
		wantPut(t, peer, []api.Owner{o}, o)
		wantPut(t, peer, []api.Owner{o, world, rep}, o)
	}
	// The kind alone is asked: a number of its own changes nothing.
	for _, n := range numbers {
		wantPut(t, own(api.OPeer, n), []api.Owner{world, rep, unique}, world)
	}
}

func TestPutForPeerOfNoListIsHidden(t *testing.T) {
	for _, n := range numbers {
		wantPut(t, own(api.OPeer, n), nil, hidden)
		wantPut(t, own(api.OPeer, n), []api.Owner{}, hidden)
		wantPut(t, own(api.OPeer, n), []api.Owner{rep}[:0], hidden)
	}
}

func TestPutForAParameterIsTheElementOfItsNumber(t *testing.T) {
	l := []api.Owner{rep, world, param(3), hole(2), unique}
	for n, want := range l {
		wantPut(t, param(n), l, want)
	}
	for _, o := range owners(numbers) {
		wantPut(t, param(0), []api.Owner{o}, o)
		wantPut(t, param(2), []api.Owner{rep, rep, o, rep}, o)
	}
}

func TestPutForAParameterThatThereIsNoneOfIsHidden(t *testing.T) {
	for _, n := range numbers {
		wantPut(t, param(n), nil, hidden)
		wantPut(t, param(n), []api.Owner{}, hidden)
	}
	l := []api.Owner{rep, world, peer}
	for size := range len(l) + 1 {
		for _, n := range []int{size, size + 1, size + 77, -1, -2, -size - 1, math.MinInt, math.MaxInt} {
			wantPut(t, param(n), l[:size], hidden)
		}
	}
}

func TestPutLeavesAllOthers(t *testing.T) {
	lists := [][]api.Owner{nil, {}, {world}, {peer, param(1), param(2), unique}, {hidden, hidden}}
	for _, o := range owners(numbers) {
		if o.Kind == api.OPeer || o.Kind == api.OParam {
			continue
		}
		for _, l := range lists {
			wantPut(t, o, l, o)
		}
	}
}

func TestPutIsDoneOnce(t *testing.T) {
	// What stands in the list is told as it is, and not put for it once more.
	l := []api.Owner{param(1), peer, param(0), param(9)}
	wantPut(t, peer, l, param(1))
	wantPut(t, param(1), l, peer)
	wantPut(t, param(2), l, param(0))
	wantPut(t, param(3), l, param(9))
}

// 4.2 All

func TestAllPutsEach(t *testing.T) {
	l := []api.Owner{rep, peer, param(1), param(2), param(3), world, any0, unique, hole(4), hidden, param(1), peer}
	wantAll(t, l, []api.Owner{world, rep, any0},
		[]api.Owner{rep, world, rep, any0, hidden, world, any0, unique, hole(4), hidden, rep, world})
	wantAll(t, l, []api.Owner{param(2)},
		[]api.Owner{rep, param(2), hidden, hidden, hidden, world, any0, unique, hole(4), hidden, hidden, param(2)})
	wantAll(t, l, nil,
		[]api.Owner{rep, hidden, hidden, hidden, hidden, world, any0, unique, hole(4), hidden, hidden, hidden})
	wantAll(t, []api.Owner{param(1)}, []api.Owner{rep, world}, []api.Owner{world})
	wantAll(t, []api.Owner{param(1)}, []api.Owner{rep}, []api.Owner{hidden})
	wantAll(t, l[1:3], l[1:3], []api.Owner{peer, param(1)})
}

func TestAllOfNoListIsNone(t *testing.T) {
	for _, m := range [][]api.Owner{nil, {}, {rep}, {rep, world, peer}} {
		wantAll(t, nil, m, nil)
		wantAll(t, []api.Owner{}, m, nil)
	}
}

func TestAllIsEachPut(t *testing.T) {
	l := owners(numbers)
	for size := range 5 {
		m := l[40 : 40+size]
		got := owner.All(l, m)
		if len(got) != len(l) {
			t.Fatalf("All of %d owners tells %d", len(l), len(got))
		}
		for i, o := range l {
			if want := owner.Put(o, m); got[i] != want {
				t.Errorf("All tells %v for %v and %v, want %v", got[i], o, m, want)
			}
		}
	}
}

// 4.3

// few are owners of all kinds, and of one that there is none of, few enough to make all short lists of.
var few = []api.Owner{rep, peer, own(api.OPeer, 1), param(-1), param(0), param(1), param(2), world, unique, hole(1), hidden, own(api.OHidden, 3), own(9, 1)}

// lists are all lists of so many of few's owners at most.
func lists(most int) [][]api.Owner {
	l := [][]api.Owner{nil}
	for i := 0; i < len(l); i++ {
		if len(l[i]) == most {
			continue
		}
		for _, o := range few {
			l = append(l, append(slices.Clone(l[i]), o))
		}
	}
	return l
}

func TestPutForOneListAndThenForAnotherIsPutAtOnce(t *testing.T) {
	try := func(o api.Owner, l, m []api.Owner) {
		t.Helper()
		if got, want := owner.Put(o, owner.All(l, m)), owner.Put(owner.Put(o, l), m); got != want {
			t.Errorf("Put(%v, All(%v, %v)) = %v, one behind the other %v", o, l, m, got, want)
		}
	}
	short := lists(2)
	for _, l := range short {
		for _, m := range short {
			for _, o := range few {
				try(o, l, m)
			}
		}
	}
	for _, o := range owners(numbers) {
		for _, l := range [][]api.Owner{nil, few[:1], few[1:4], few} {
			for _, m := range [][]api.Owner{nil, few[:1], few[2:5], few} {
				try(o, l, m)
			}
		}
	}
}

func TestAllForOneListAndThenForAnotherIsAllAtOnce(t *testing.T) {
	for _, l := range lists(2) {
		for _, m := range [][]api.Owner{nil, {world}, {param(1), peer}, few} {
			wantAll(t, owner.All(few, l), m, owner.All(few, owner.All(l, m)))
		}
	}
}

func TestOfUnlikeOwnersOneStandsAhead(t *testing.T) {
	l := owners(numbers)
	for _, a := range l {
		for _, b := range l {
			x, y := owner.Order(a, b), owner.Order(b, a)
			if x != -y || x < -1 || x > 1 || (x == 0) != (a == b) {
				t.Errorf("Order(%v, %v) = %d, the other way round %d", a, b, x, y)
			}
		}
	}
}

func TestWhatStandsAheadOfOneStandsAheadOfAllBehindIt(t *testing.T) {
	l := owners([]int{math.MinInt, -1, 0, 1, math.MaxInt})
	for _, a := range l {
		for _, b := range l {
			if owner.Order(a, b) >= 0 {
				continue
			}
			for _, c := range l {
				if owner.Order(b, c) < 0 && owner.Order(a, c) >= 0 {
					t.Errorf("%v is ahead of %v, that of %v, but the first one is not ahead of the last one", a, b, c)
				}
			}
		}
	}
}

// R4: what is handed in is not changed and not kept.

func TestListsStayAsTheyAre(t *testing.T) {
	l, m := []api.Owner{peer, param(1), param(7), world}, []api.Owner{param(2), rep, peer, hidden}
	params := []string{"a", "b", "a"}
	keptL, keptM, keptParams := slices.Clone(l), slices.Clone(m), slices.Clone(params)
	// A list's room behind its end belongs to whoever handed it in.
	owner.All(l[:2], m[:2])
	owner.All(l, m)
	owner.All(l, l)
	for _, o := range owners(numbers) {
		owner.Put(o, l[:1])
		owner.Put(o, l)
		owner.Text(o, params)
		owner.Right(o, len(params))
	}
	owner.Find("a", params)
	owner.Find("c", params)
	if !slices.Equal(l, keptL) || !slices.Equal(m, keptM) || !slices.Equal(params, keptParams) {
		t.Errorf("%v, %v, %q have become %v, %v, %q", keptL, keptM, keptParams, l, m, params)
	}
}

func TestAnswersAreOfNewMemory(t *testing.T) {
	// None of l changes, so that l itself would be an answer, too.
	l, m := []api.Owner{rep, world, unique}, []api.Owner{any0}
	first := owner.All(l, m)
	second := owner.All(l, m)
	for i := range first {
		first[i] = hidden
	}
	wantAll(t, l, m, []api.Owner{rep, world, unique})
	if !slices.Equal(second, []api.Owner{rep, world, unique}) || m[0] != any0 {
		t.Errorf("what is written into an answer stands in %v, %v", second, m)
	}
	l[0], m[0] = peer, rep
	if !slices.Equal(second, []api.Owner{rep, world, unique}) {
		t.Errorf("what is written into a list stands in %v", second)
	}
}

package word_test

import (
	"math"
	"math/big"
	"strings"
	"testing"

	"demesne/word"
)

// language are the words of the language, as the chapter lists them.
const language = "class, extends, rep, peer, world, any, unique, pure, void, int, if, else, while, return, new, move, delete, this, null, input, nil, same, cast"

func languageWords() []string { return strings.Split(language, ", ") }

func wantName(t *testing.T, s string, is bool) {
	t.Helper()
	if got := word.Name(s); got != is {
		t.Errorf("Name(%q) = %v, want %v", s, got, is)
	}
}

func wantFind(t *testing.T, s string, n int) {
	t.Helper()
	if got := word.Find(s); got != n {
		t.Errorf("Find(%q) = %d, want %d", s, got, n)
	}
}

func wantWord(t *testing.T, n int, s string) {
	t.Helper()
	if got := word.Word(n); got != s {
		t.Errorf("Word(%d) = %q, want %q", n, got, s)
	}
}

func wantNumber(t *testing.T, s string, n int, is bool) {
	t.Helper()
	if k, ok := word.Number(s); k != n || ok != is {
		t.Errorf("Number(%q) = %d, %v, want %d, %v", s, k, ok, n, is)
	}
}

func wantDigits(t *testing.T, n int, s string) {
	t.Helper()
	if got := word.Digits(n); got != s {
		t.Errorf("Digits(%d) = %q, want %q", n, got, s)
	}
}

// 2.1

func TestBytesOfEachKind(t *testing.T) {
	letters := "abcdefghijklmnopqrstuvwxyzABCDEFGHIJKLMNOPQRSTUVWXYZ"
	for i := range 256 {
		b := byte(i)
		if got, want := word.Letter(b), strings.IndexByte(letters, b) >= 0; got != want {
			t.Errorf("Letter(%d) = %v, want %v", b, got, want)
		}
		if got, want := word.Digit(b), strings.IndexByte("0123456789", b) >= 0; got != want {
			t.Errorf("Digit(%d) = %v, want %v", b, got, want)
		}
		if got, want := word.Blank(b), strings.IndexByte("\t\n\r ", b) >= 0; got != want {
			t.Errorf("Blank(%d) = %v, want %v", b, got, want)
		}
	}
}

func TestNamesOfLettersAndDigits(t *testing.T) {
	for _, s := range []string{"a", "z", "A", "Z", "Main", "x9", "a0b1c2", "List", "X99999", "main", "self"} {
		wantName(t, s, true)
	}
}

func TestNoNameWithoutByte(t *testing.T) {
	wantName(t, "", false)
}

func TestNamesHaveTwentyBytesAtMost(t *testing.T) {
	for n := 1; n <= 100; n++ {
		wantName(t, strings.Repeat("x", n), n <= 20)
		wantName(t, "y"+strings.Repeat("7", n-1), n <= 20)
	}
	// Bytes count, not runes: neither of these is one of letters.
	wantName(t, strings.Repeat("é", 10), false)
	wantName(t, strings.Repeat("é", 20), false)
}

func TestNamesBeginWithALetter(t *testing.T) {
	for i := range 256 {
		b := byte(i)
		wantName(t, string([]byte{b}), word.Letter(b))
		wantName(t, string([]byte{b, 'q'}), word.Letter(b))
	}
}

func TestNamesGoOnWithLettersAndDigits(t *testing.T) {
	for i := range 256 {
		b := byte(i)
		is := word.Letter(b) || word.Digit(b)
		wantName(t, string([]byte{'q', b}), is)
		wantName(t, string([]byte{'q', b, 'q'}), is)
		wantName(t, strings.Repeat("q", 19)+string([]byte{b}), is)
	}
}

func TestFindTellsTheNumberOfEachWord(t *testing.T) {
	for i, w := range languageWords() {
		wantFind(t, w, i+1)
	}
	wantFind(t, "class", 1)
	wantFind(t, "this", 18)
	wantFind(t, "cast", 23)
}

func TestFindOfOtherTextsIsNought(t *testing.T) {
	for _, s := range []string{"", " ", "x", "Main", "Class", "THIS", "true", "boolean", "super", "0", "7", "é", "\x00", language} {
		wantFind(t, s, 0)
	}
	for _, w := range languageWords() {
		wantFind(t, " "+w, 0)
		wantFind(t, w+" ", 0)
		wantFind(t, w+"\x00", 0)
		wantFind(t, w+w, 0)
		wantFind(t, w[:len(w)-1], 0)
		wantFind(t, w[1:], 0)
		wantFind(t, strings.ToUpper(w[:1])+w[1:], 0)
	}
}

func TestWordOfEachNumber(t *testing.T) {
	for i, w := range languageWords() {
		wantWord(t, i+1, w)
	}
	wantWord(t, 1, "class")
	wantWord(t, 23, "cast")
}

func TestWordOfOtherNumbersIsNone(t *testing.T) {
	for _, n := range []int{math.MinInt, math.MinInt + 1, -23, -2, -1, 0, 24, 25, 46, 256, 257, math.MaxInt32, math.MaxInt - 1, math.MaxInt} {
		wantWord(t, n, "")
	}
}

func TestFindAndWordAreEachOthersBack(t *testing.T) {
	for n := 1; n <= 23; n++ {
		wantFind(t, word.Word(n), n)
	}
}

// 2.2

func TestNumberTellsWhatItSays(t *testing.T) {
	for s, n := range map[string]int{
		"0": 0, "1": 1, "9": 9, "10": 10, "42": 42, "100": 100, "907": 907,
		"123456789": 123456789, "987654321": 987654321, "100000000": 100000000, "999999999": 999999999,
	} {
		wantNumber(t, s, n, true)
	}
}

func TestNumberHasNineDigitsAtMost(t *testing.T) {
	wantNumber(t, "", 0, false)
	wantNumber(t, "999999999", 999999999, true)
	wantNumber(t, "1000000000", 0, false)
	wantNumber(t, "1234567890", 0, false)
	for n := 10; n <= 100; n++ {
		wantNumber(t, strings.Repeat("1", n), 0, false)
		wantNumber(t, strings.Repeat("0", n), 0, false)
	}
	wantNumber(t, "9223372036854775807", 0, false)
	wantNumber(t, "18446744073709551616", 0, false)
}

func TestNumberHasNoNoughtAhead(t *testing.T) {
	for _, s := range []string{"00", "01", "007", "09", "000000000", "000000001", "012345678", "0000000001"} {
		wantNumber(t, s, 0, false)
	}
}

func TestNumberHasDigitsAlone(t *testing.T) {
	for _, s := range []string{"-", "+", "-0", "-1", "+1", " 1", "1 ", "1\n", "1.0", "1e3", "0x1", "1_0", "a", "a1", "1a", "٣", "x"} {
		wantNumber(t, s, 0, false)
	}
	for i := range 256 {
		b := byte(i)
		if word.Digit(b) {
			continue
		}
		wantNumber(t, string([]byte{b}), 0, false)
		wantNumber(t, string([]byte{b, '1'}), 0, false)
		wantNumber(t, string([]byte{'1', b}), 0, false)
		wantNumber(t, string([]byte{'1', b, '1'}), 0, false)
	}
}

func TestDigitsWithoutNoughtsAhead(t *testing.T) {
	for s, n := range map[string]int{
		"0": 0, "1": 1, "9": 9, "10": 10, "100": 100, "907": 907,
		"999999999": 999999999, "1000000000": 1000000000, "2147483648": 1 << 31,
	} {
		wantDigits(t, n, s)
	}
}

func TestDigitsOfNumbersBelowNought(t *testing.T) {
	for s, n := range map[string]int{
		"-1": -1, "-9": -9, "-10": -10, "-907": -907, "-1000000000": -1000000000,
	} {
		wantDigits(t, n, s)
	}
}

func TestDigitsOfTheLeastAndTheGreatest(t *testing.T) {
	for _, n := range []int{math.MinInt, math.MinInt + 1, math.MaxInt - 1, math.MaxInt} {
		wantDigits(t, n, big.NewInt(int64(n)).String())
	}
}

// 2.3

func TestNumberComesBackFromItsDigits(t *testing.T) {
	back := func(n int) {
		t.Helper()
		wantNumber(t, word.Digits(n), n, true)
	}
	for n := range 20000 {
		back(n)
		back(999999999 - n)
	}
	for n := 0; n <= 999999999; n += 9973 {
		back(n)
	}
	for p := 1; p <= 100000000; p *= 10 {
		back(p - 1)
		back(p)
		back(p + 1)
	}
}

func TestDigitsOfOtherNumbersAreNone(t *testing.T) {
	for _, n := range []int{math.MinInt, -1000000000, -999999999, -1, 1000000000, 1000000001, math.MaxInt} {
		wantNumber(t, word.Digits(n), 0, false)
	}
}

func TestNumbersAreWrittenInOneWay(t *testing.T) {
	texts := []string{""}
	for i := 0; i < len(texts); i++ {
		if len(texts[i]) == 5 {
			break
		}
		for _, b := range []string{"-", "0", "1", "9"} {
			texts = append(texts, texts[i]+b)
		}
	}
	for _, s := range texts {
		n, is := word.Number(s)
		if is && word.Digits(n) != s {
			t.Errorf("Number(%q) = %d, which is written %q", s, n, word.Digits(n))
		}
		if !is && n != 0 {
			t.Errorf("Number(%q) = %d, false", s, n)
		}
	}
}

func TestNoWordOfTheLanguageIsAName(t *testing.T) {
	for _, w := range languageWords() {
		wantName(t, w, false)
		// What only begins or ends like a word is a name.
		wantName(t, w+"x", true)
		wantName(t, "x"+w, true)
		wantName(t, strings.ToUpper(w), true)
	}
}

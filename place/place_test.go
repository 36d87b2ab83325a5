package place_test

import (
	"math"
	"strings"
	"testing"

	"demesne/place"
)

// wrong are lines, columns and bytes that no short text has.
var wrong = []int{math.MinInt, math.MinInt + 1, -2, -1, 0, 100, math.MaxInt - 1, math.MaxInt}

// shortTexts tells all texts of a letter, a newline and a byte that is no rune, up to a length.
func shortTexts(most int) []string {
	texts := []string{""}
	for i := 0; i < len(texts); i++ {
		if len(texts[i]) == most {
			break
		}
		for _, b := range []string{"a", "\n", "\xff"} {
			texts = append(texts, texts[i]+b)
		}
	}
	return texts
}

func wantOf(t *testing.T, text string, at, line, column int) {
	t.Helper()
	if l, c := place.Of(text, at); l != line || c != column {
		t.Errorf("Of(%q, %d) = %d, %d, want %d, %d", text, at, l, c, line, column)
	}
}

func wantBack(t *testing.T, text string, line, column, at int, is bool) {
	t.Helper()
	if a, ok := place.Back(text, line, column); a != at || ok != is {
		t.Errorf("Back(%q, %d, %d) = %d, %v, want %d, %v", text, line, column, a, ok, at, is)
	}
}

func wantLine(t *testing.T, text string, n int, line string, is bool) {
	t.Helper()
	if l, ok := place.Line(text, n); l != line || ok != is {
		t.Errorf("Line(%q, %d) = %q, %v, want %q, %v", text, n, l, ok, line, is)
	}
}

// 1.1

func TestOfTellsLineAndColumn(t *testing.T) {
	text := "class A { }\n\nclass B {\n}"
	for _, c := range []struct{ at, line, column int }{
		{0, 1, 1}, {6, 1, 7}, {10, 1, 11},
		{13, 3, 1}, {19, 3, 7}, {23, 4, 1},
	} {
		wantOf(t, text, c.at, c.line, c.column)
	}
}

func TestOfExampleOfTheChapter(t *testing.T) {
	wantOf(t, "ab\nc", 3, 2, 1)
	wantOf(t, "ab\nc", 2, 1, 3)
}

func TestOfGivesANewlineToTheLineThatItEnds(t *testing.T) {
	wantOf(t, "\n", 0, 1, 1)
	wantOf(t, "\n\n\n", 0, 1, 1)
	wantOf(t, "\n\n\n", 1, 2, 1)
	wantOf(t, "\n\n\n", 2, 3, 1)
	wantOf(t, "a\n\n\nb", 1, 1, 2)
	wantOf(t, "a\n\n\nb", 3, 3, 1)
	wantOf(t, "a\n\n\nb", 4, 4, 1)
}

func TestOfTheEnd(t *testing.T) {
	wantOf(t, "", 0, 1, 1)
	wantOf(t, "abc", 3, 1, 4)
	wantOf(t, "ab\nc", 4, 2, 2)
	wantOf(t, "ab\n", 3, 2, 1)
	wantOf(t, "\n\n\n", 3, 4, 1)
}

func TestOfTakesBytesBeyondTheTextAsItsEnds(t *testing.T) {
	for _, text := range []string{"", "abc", "ab\nc", "ab\n", "\n\n"} {
		line, column := place.Of(text, len(text))
		for _, at := range []int{-1, -len(text) - 1, math.MinInt} {
			wantOf(t, text, at, 1, 1)
		}
		for _, at := range []int{len(text) + 1, 2*len(text) + 2, math.MaxInt} {
			wantOf(t, text, at, line, column)
		}
	}
}

func TestOfCountsBytesAndNoOtherBlanks(t *testing.T) {
	wantOf(t, "äö", 2, 1, 3)
	wantOf(t, "\xff\x00a", 2, 1, 3)
	wantOf(t, "a\r\tb", 3, 1, 4)
	wantOf(t, "a\r\nb", 2, 1, 3)
	wantOf(t, "a\r\nb", 3, 2, 1)
	wantOf(t, "a\u2028b", 4, 1, 5)
}

func TestOfCountsNewlinesAhead(t *testing.T) {
	for _, text := range shortTexts(6) {
		for at := 0; at <= len(text); at++ {
			ahead := text[:at]
			column := at - (strings.LastIndexByte(ahead, 10) + 1) + 1
			wantOf(t, text, at, strings.Count(ahead, "\n")+1, column)
		}
	}
}

// 1.2

func TestBackTellsTheByte(t *testing.T) {
	text := "ab\nc\n\nde"
	for _, c := range []struct{ line, column, at int }{
		{1, 1, 0}, {1, 2, 1}, {1, 3, 2}, {2, 1, 3}, {2, 2, 4},
		{3, 1, 5}, {4, 1, 6}, {4, 2, 7},
	} {
		wantBack(t, text, c.line, c.column, c.at, true)
	}
}

func TestBackOfTheEndIsTheLength(t *testing.T) {
	wantBack(t, "", 1, 1, 0, true)
	wantBack(t, "abc", 1, 4, 3, true)
	wantBack(t, "ab\nc", 2, 2, 4, true)
	wantBack(t, "ab\n", 2, 1, 3, true)
	wantBack(t, "\n\n\n", 4, 1, 3, true)
}

func TestBackRefusesWhatIsNoPlace(t *testing.T) {
	wantBack(t, "", 1, 2, 0, false)
	wantBack(t, "", 2, 1, 0, false)
	wantBack(t, "ab\nc", 1, 4, 0, false)
	wantBack(t, "ab\nc", 2, 3, 0, false)
	wantBack(t, "ab\nc", 3, 1, 0, false)
	wantBack(t, "ab\n", 2, 2, 0, false)
	wantBack(t, "ab\n", 3, 1, 0, false)
	wantBack(t, "\n\n", 1, 2, 0, false)
	wantBack(t, "\n\n", 2, 2, 0, false)
	for _, text := range []string{"", "ab\nc", "ab\n", "\n\n\n"} {
		for _, n := range wrong {
			for _, m := range wrong {
				wantBack(t, text, n, m, 0, false)
			}
			for line := 1; line <= place.Lines(text); line++ {
				wantBack(t, text, line, n, 0, false)
			}
			wantBack(t, text, n, 1, 0, false)
		}
	}
}

func TestBackTurnsOf(t *testing.T) {
	for _, text := range shortTexts(6) {
		places := 0
		for line := -1; line <= len(text)+3; line++ {
			for column := -1; column <= len(text)+3; column++ {
				at, is := place.Back(text, line, column)
				if !is {
					wantBack(t, text, line, column, 0, false)
					continue
				}
				places++
				wantOf(t, text, at, line, column)
			}
		}
		if places != len(text)+1 {
			t.Errorf("%q has %d places, want %d", text, places, len(text)+1)
		}
		for at := 0; at <= len(text); at++ {
			line, column := place.Of(text, at)
			wantBack(t, text, line, column, at, true)
		}
	}
}

// 1.3

func TestLinesIsOneMoreThanNewlines(t *testing.T) {
	for _, c := range []struct {
		text  string
		lines int
	}{
		{"", 1}, {"abc", 1}, {"ab\nc", 2}, {"ab\n", 2}, {"\n", 2},
		{"\n\n\n", 4}, {"a\n\n\nb", 4}, {"a\r\nb\rc", 2}, {"a\v\f\u2028b", 1},
	} {
		if n := place.Lines(c.text); n != c.lines {
			t.Errorf("Lines(%q) = %d, want %d", c.text, n, c.lines)
		}
	}
}

func TestLineTellsTheLineWithoutItsNewline(t *testing.T) {
	text := "one\n\ntwo \r\n\xffthree"
	for i, line := range []string{"one", "", "two \r", "\xffthree"} {
		wantLine(t, text, i+1, line, true)
	}
}

func TestLineOfTheEdges(t *testing.T) {
	wantLine(t, "", 1, "", true)
	wantLine(t, "ab\n", 1, "ab", true)
	wantLine(t, "ab\n", 2, "", true)
	wantLine(t, "\n\n\n", 1, "", true)
	wantLine(t, "\n\n\n", 3, "", true)
	wantLine(t, "\n\n\n", 4, "", true)
	wantLine(t, "a\n\n\nb", 2, "", true)
	wantLine(t, "a\n\n\nb", 4, "b", true)
}

func TestLineRefusesWhatIsNoLine(t *testing.T) {
	wantLine(t, "", 2, "", false)
	wantLine(t, "ab", 2, "", false)
	wantLine(t, "ab\n", 3, "", false)
	wantLine(t, "\n\n\n", 5, "", false)
	for _, text := range []string{"", "ab\nc", "ab\n", "\n\n\n"} {
		for _, n := range wrong {
			wantLine(t, text, n, "", false)
		}
	}
}

func TestLinesAreTheTextCutAtNewlines(t *testing.T) {
	for _, text := range shortTexts(6) {
		lines := strings.Split(text, "\n")
		if n := place.Lines(text); n != len(lines) {
			t.Errorf("Lines(%q) = %d, want %d", text, n, len(lines))
		}
		for i, line := range lines {
			wantLine(t, text, i+1, line, true)
		}
		wantLine(t, text, 0, "", false)
		wantLine(t, text, len(lines)+1, "", false)
	}
}

// R1, R5: a long text has its answers too, the same ones each time.

func TestLongTexts(t *testing.T) {
	text := strings.Repeat("ab\n", 1<<15)
	for range 2 {
		wantOf(t, text, len(text), 1<<15+1, 1)
		wantBack(t, text, 1<<15, 3, len(text)-1, true)
		wantLine(t, text, 1<<15, "ab", true)
		if n := place.Lines(text); n != 1<<15+1 {
			t.Errorf("Lines = %d, want %d", n, 1<<15+1)
		}
	}
}

// Package place is layer 1: where a byte of a text stands, as a line and a column; see shared/doc/01-place.md.
package place

import "iter"

// newline is the byte that ends a line, and is its own.
const newline = 10

// span is where a line begins, and where it ends: there stands its newline, or the text's end.
type span struct{ from, to int }

// spans tells the lines of a text, each with its number, from 1 on.
func spans(text string) iter.Seq2[int, span] {
	return func(yield func(int, span) bool) {
		n, from := 1, 0
		for at := 0; at < len(text); at++ {
			if text[at] != newline {
				continue
			}
			if !yield(n, span{from, at}) {
				return
			}
			n, from = n+1, at+1
		}
		// What stands behind the last newline is a line, even if nothing does.
		yield(n, span{from, len(text)})
	}
}

// Of tells the line and the column of the byte at, or of the text's end.
func Of(text string, at int) (int, int) {
	at = min(max(at, 0), len(text))
	line, column := 0, 0
	for n, s := range spans(text) {
		if s.from > at {
			break
		}
		line, column = n, at-s.from+1
	}
	return line, column
}

// Back tells which byte stands at a place, and whether that is a place of the text.
func Back(text string, line, column int) (int, bool) {
	for n, s := range spans(text) {
		if n != line {
			continue
		}
		if column < 1 || column > s.to-s.from+1 {
			return 0, false
		}
		return s.from + column - 1, true
	}
	return 0, false
}

// Lines tells how many lines a text has.
func Lines(text string) int {
	count := 0
	for n := range spans(text) {
		count = n
	}
	return count
}

// Line tells the n-th line of a text, without its newline, and whether there is one.
func Line(text string, n int) (string, bool) {
	for i, s := range spans(text) {
		if i == n {
			return text[s.from:s.to], true
		}
	}
	return "", false
}

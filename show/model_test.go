package show_test

import (
	"fmt"
	"slices"
	"strings"
	"testing"

	"demesne/api"
	"demesne/parse"
	"demesne/show"
	"demesne/size"
	"demesne/token"
)

// laid is a model of where all stands in a text: it knows tokens alone, and tells the text that they are laid out as.
// A line ends behind { and ; and }, but not ahead of an else; so many bytes 9 stand ahead of it as { stand open.
func laid(l []api.Token) string {
	var b strings.Builder
	var line []api.Token
	deep := 0
	for i, x := range l {
		line = append(line, x)
		if !signed(x, "{", ";", "}") || x.Text == "}" && l[i+1].Text == "else" {
			continue
		}
		if line[0].Text == "}" {
			deep--
		}
		b.WriteString(strings.Repeat("\t", deep))
		for k := range line {
			b.WriteString(blank(line, k) + line[k].Text)
		}
		b.WriteString("\n")
		if x.Text == "{" {
			deep++
		}
		line = nil
	}
	return b.String()
}

// signed tells whether a token is one of these signs.
func signed(x api.Token, signs ...string) bool {
	return x.Kind == api.TSign && slices.Contains(signs, x.Text)
}

// blank is the blank ahead of a token of a line, if there is one.
func blank(line []api.Token, k int) string {
	x, before := line[k], api.Token{}
	if k > 0 {
		before = line[k-1]
	}
	owners := !computes(line)
	called := signed(x, "(") && (before.Kind == api.TName || before.Text == "nil" || before.Text == "same")
	angle := owners && (signed(x, "<", ">") || signed(before, "<"))
	if k == 0 || called || angle || signed(x, ",", ";", ")", ".") || signed(before, "(", ".", "!") {
		return ""
	}
	return " "
}

// computes tells whether a < of a line is a sign between two numbers, and not ahead of owners.
func computes(line []api.Token) bool {
	if len(line) < 3 {
		return false
	}
	switch first := line[0].Text; {
	case first == "if", first == "while", first == "return", first == "this":
		return true
	case signed(line[1], "."):
		return true
	}
	return signed(line[1], "=") && line[2].Text != "new" && line[2].Text != "cast"
}

// told is all of a program, or of a part of one.
func told(x any) string { return fmt.Sprintf("%+v", x) }

// unlike tells whether the parameters of each class are unlike.
func unlike(p []api.Class) bool {
	for _, c := range p {
		for i, s := range c.Params {
			if slices.Contains(c.Params[:i], s) {
				return false
			}
		}
	}
	return true
}

// wantModel asks that a program is written if it may be, laid out as the model does it, and is read as the same program again, each of its classes and heads too, and that it stays.
func wantModel(t *testing.T, p []api.Class) {
	t.Helper()
	before := told(p)
	text, classes := show.Text(p), wantClasses(t, p)
	if now := told(p); now != before {
		t.Fatalf("%s has become %s", before, now)
	}
	if !size.Right(p) {
		if text != "" {
			t.Fatalf("Text(%s), which may not be, is %q", before, text)
		}
		return
	}
	if classes != text {
		t.Fatalf("Text(%s) is %q, the classes one by one are %q", before, text, classes)
	}
	if len(text) <= api.MaxText {
		wantBack(t, p, text)
	}
}

// wantBack asks that a text is laid out as the model does it, and is read as this program.
func wantBack(t *testing.T, p []api.Class, text string) {
	t.Helper()
	l, _ := token.Of(text)
	if want := laid(l); text != want {
		t.Fatalf("Text(%s) is %q, want %q", told(p), text, want)
	}
	if !unlike(p) {
		return
	}
	if q, f := parse.Of(text); f != (api.Fault{}) || !size.Same(p, q) {
		t.Fatalf("Text(%s) is %q, which is read as %s, %v", told(p), text, told(q), f)
	}
}

// wantClasses asks that each class is written, and the heads of its methods, as far as they may be; it tells the classes, one behind the other.
func wantClasses(t *testing.T, p []api.Class) string {
	t.Helper()
	var all string
	for _, c := range p {
		text := show.Class(c)
		if one := show.Text([]api.Class{c}); text != one || (text != "") != size.Right([]api.Class{c}) {
			t.Fatalf("Class(%s) is %q, Text of it %q", told(c), text, one)
		}
		all += text
		for _, m := range c.Methods {
			wantHead(t, c, m)
		}
	}
	return all
}

// wantHead asks that a method's head is what stands on its first line, in the class with that method alone.
func wantHead(t *testing.T, c api.Class, m api.Method) {
	t.Helper()
	alone := c
	alone.Methods = []api.Method{m}
	want := ""
	if size.Right([]api.Class{alone}) {
		// A field's line ends with a semicolon, the method's own one is the first one that doesn't.
		for _, line := range strings.Split(show.Class(alone), "\n")[1:] {
			if s, is := strings.CutSuffix(line, ") {"); is {
				want = strings.TrimPrefix(s, "\t") + ")"
				break
			}
		}
	}
	if got := show.Head(c, m); got != want {
		t.Fatalf("Head(%s, %s) is %q, want %q", told(c), told(m), got, want)
	}
}

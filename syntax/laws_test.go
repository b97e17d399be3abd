package syntax_test

import (
	"strings"
	"testing"

	"linkwork/api"
	"linkwork/lex"
	"linkwork/syntax"
)

// P6.1
func TestLawThereAndBack(t *testing.T) {
	s := source(611)
	kinds := map[string]int{}
	for range 3000 {
		list := s.classes(0, 3)
		text := write(t, list)
		again := parse(t, text)
		if !same(again, list) {
			t.Fatalf("%s: %+v, want %+v", text, again, list)
		}
		for _, c := range list {
			for _, x := range placesOf(&c).stmts {
				kinds[x.Kind]++
			}
		}
		source := ""
		for _, c := range list {
			source += fullClass(c)
		}
		first := parse(t, source)
		if second := parse(t, write(t, first)); !same(second, first) {
			t.Fatalf("%s: %+v, want %+v", source, second, first)
		}
	}
	for _, kind := range []string{"equal", "connect", "for", "if", "when", "reinit"} {
		if kinds[kind] < 300 {
			t.Errorf("%d statements %s", kinds[kind], kind)
		}
	}
}

// The text of a statement is the part of the class's text that it makes.
func TestLawLine(t *testing.T) {
	s := source(612)
	for range 3000 {
		x := s.line(3)
		line, err := syntax.Line(x)
		if err != api.OK {
			continue // too long
		}
		text := write(t, []api.Class{{Kind: "model", Name: "A", Eqs: []api.Stmt{x}}})
		if text != "model A equation "+line+" end A ;" {
			t.Fatalf("%s: %s", text, line)
		}
	}
}

// P6.1, for expressions
func TestLawShow(t *testing.T) {
	s := source(613)
	for range 20000 {
		x := s.expr(s.below(5))
		text, err := syntax.Show(x)
		if err != api.OK {
			t.Fatalf("Show(%s): %d", notation(x), err)
		}
		again, err := syntax.Expr(text)
		if notation(again) != notation(x) || err != api.OK {
			t.Fatalf("Show(%s): %s, and that is %s, %d", notation(x), text, notation(again), err)
		}
	}
}

// spaced writes the tokens of a source with other gaps between them, and none where there need not be one.
func (s *source) spaced(t *testing.T, text string) string {
	t.Helper()
	spaced := pick(s, "", " ", "// model\n")
	last := api.Token{}
	for _, token := range scan(t, text) {
		joined := tokenText(last) + tokenText(token)
		tokens, _, _ := lex.Scan(joined)
		apart := last.Kind == 0 || len(tokens) == 2 && tokens[0].Text == last.Text && tokens[1].Text == token.Text
		if last.Text == "/" {
			spaced += " " // before what may be a remark
		}
		if !apart || s.below(2) == 0 {
			spaced += pick(s, " ", "\n", "\t", "  \n", "//\n", " // end ; \" é\n\n")
		}
		spaced += tokenText(token)
		last = token
	}
	return spaced + pick(s, "", " ", "\n", "// end", "//\n")
}

// P6.2
func TestLawSpaces(t *testing.T) {
	s := source(62)
	for range 1500 {
		list := s.classes(1, 2)
		text := s.spaced(t, write(t, list))
		if len(text) > api.MaxText {
			continue
		}
		if got := parse(t, text); !same(got, list) {
			t.Fatalf("%s: %+v, want %+v", text, got, list)
		}
	}
	for range 3000 {
		x := s.expr(s.below(5))
		shown, _ := syntax.Show(x)
		text := s.spaced(t, shown)
		if got, err := syntax.Expr(text); notation(got) != notation(x) || err != api.OK {
			t.Fatalf("%s: %s, %d, want %s", text, notation(got), err, notation(x))
		}
	}
}

// P6.4
func TestLawParentheses(t *testing.T) {
	s := source(64)
	for range 1500 {
		list := s.classes(1, 2)
		source := ""
		for _, c := range list {
			source += fullClass(c)
		}
		if got := parse(t, source); !same(got, list) {
			t.Fatalf("%s: %+v, want %+v", source, got, list)
		}
	}
	for range 5000 {
		x := s.expr(s.below(5))
		shown, _ := syntax.Show(x)
		for _, text := range []string{"(" + shown + ")", full(x), "((" + bareText(x) + "))"} {
			if got, err := syntax.Expr(text); notation(got) != notation(x) || err != api.OK {
				t.Fatalf("%s: %s, %d, want %s", text, notation(got), err, notation(x))
			}
		}
	}
}

// P6.5, and P6.1 for sources that were changed: what is no source any more is mostly refused, and what is left is valid.
func TestLawValid(t *testing.T) {
	s := source(65)
	others := scan(t, `model connector extends replaceable parameter flow redeclare equation initial end for in loop if then else when reinit connect ( ) [ ] { } , ; : . = == + - * not and x Real A "s" 1 0.5 x y 2 x y z . , + true false`)
	fine, bad := 0, 0
	for range 10000 {
		list := s.classes(1, 1)
		text := textOf(s.changed(scan(t, write(t, list)), others, 1))
		got, err := syntax.Parse(text)
		if err != api.OK {
			if len(got) > 0 || err != api.ErrForm {
				t.Fatalf("%s: %d", text, err)
			}
			bad++
			continue
		}
		fine++
		for _, c := range got {
			if err := syntax.Check(c); err != api.OK {
				t.Fatalf("%s: Check %d", text, err)
			}
		}
		written := write(t, got)
		if again := parse(t, written); !same(again, got) {
			t.Fatalf("%s: %+v, want %+v", text, again, got)
		}
		// the text of it has the words, numbers and strings of the source, but for the order of components
		if a, b := contents(t, text), contents(t, written); a != b {
			t.Fatalf("%s: %s, that is %s, not %s", text, written, b, a)
		}
	}
	if fine < 500 || bad < 5000 {
		t.Errorf("%d sources, %d that are none", fine, bad)
	}
}

// contents counts what is no symbol, and no keyword that may be left out, in a text.
func contents(t *testing.T, text string) string {
	t.Helper()
	seen := map[string]int{}
	var list []string
	for _, token := range scan(t, text) {
		if token.Kind == api.TokSymbol || token.Text == "else" || token.Text == "equation" || token.Text == "initial" {
			continue
		}
		if seen[token.Text] == 0 {
			list = append(list, token.Text)
		}
		seen[token.Text]++
	}
	for i, word := range list {
		list[i] = word + strings.Repeat("'", seen[word])
	}
	return strings.Join(sorted(list), " ")
}

// P6.6
func TestLawJoined(t *testing.T) {
	s := source(66)
	for range 1500 {
		one, two := s.classes(0, 2), s.classes(0, 2)
		first, second := s.spaced(t, write(t, one)), s.spaced(t, write(t, two))
		text := first + "\n" + second
		if tokens, _, _ := lex.Scan(text); len(text) > api.MaxText || tokens == nil && text != "\n" {
			continue
		}
		if got := parse(t, text); !same(got, append(one, two...)) {
			t.Fatalf("%s: %+v, want %+v, %+v", text, got, one, two)
		}
	}
	for _, bad := range []string{"x", "model A", "end A;", ";"} {
		malformed(t, "model B end B; ", "", bad)
		malformed(t, "", " model B end B;", bad)
	}
}

package lex_test

import (
	"slices"
	"strings"
	"testing"

	"linkwork/api"
	"linkwork/lex"
)

func tok(kind int, text string) api.Token {
	return api.Token{Kind: kind, Text: text}
}

func TestTextTokens(t *testing.T) {
	word, key, num, quoted, symbol := api.TokWord, api.TokKey, api.TokNum, api.TokString, api.TokSymbol
	for _, c := range []struct {
		tokens []api.Token
		want   string
	}{
		{nil, ""},
		{[]api.Token{}, ""},
		{[]api.Token{tok(word, "a")}, "a"},
		{[]api.Token{tok(word, "a"), tok(word, "b"), tok(key, "end")}, "a b end"},
		{[]api.Token{tok(num, "1"), tok(symbol, "."), tok(num, "5")}, "1 . 5"},
		{[]api.Token{tok(symbol, "="), tok(symbol, "=")}, "= ="},
		{[]api.Token{tok(symbol, "/"), tok(symbol, "/"), tok(word, "a")}, "/ / a"},
		{[]api.Token{tok(quoted, ""), tok(quoted, "a  //b ")}, `"" "a  //b "`},
		{[]api.Token{tok(quoted, "model"), tok(key, "model"), tok(word, "Model")}, `"model" model Model`},
		{[]api.Token{tok(quoted, strings.Repeat("~", 40))}, `"` + strings.Repeat("~", 40) + `"`},
		{[]api.Token{{Kind: word, Text: "b", At: 9}, {Kind: word, Text: "a", At: -3}}, "b a"},
	} {
		if got := write(t, c.tokens); got != c.want {
			t.Errorf("Text(%v): %q, want %q", c.tokens, got, c.want)
		}
	}
}

func TestTextNumbers(t *testing.T) {
	d15 := strings.Repeat("9", 15)
	for _, c := range []struct{ text, want string }{
		{"0", "0"},
		{"7", "7"},
		{"10", "10"},
		{d15, d15},
		{"1/2", "0.5"},
		{"5/2", "2.5"},
		{"1/4", "0.25"},
		{"1/5", "0.2"},
		{"1/8", "0.125"},
		{"3/20", "0.15"},
		{"1/100", "0.01"},
		{"101/100", "1.01"},
		{"1/25", "0.04"},
		{"33/16", "2.0625"},
		{"9999999999999999/20", "499999999999999.95"},
		{"30517578125/2", "15258789062.5"},
		{"1/32768", "0.000030517578125"},
		{"1/30517578125", "0.000000000032768"},
		{"1/1000000000000000", "0.000000000000001"},
		{"1000000000000001/1000000000000000", "1.000000000000001"},
		{"18446744073709551617/1000000000000000", "18446.744073709551617"},
		{"1999999999999999/2", d15 + ".5"},
		{d15 + d15 + "/1000000000000000", d15 + "." + d15},
	} {
		if got := write(t, []api.Token{tok(api.TokNum, c.text)}); got != c.want {
			t.Errorf("%s: %s, want %s", c.text, got, c.want)
		}
	}
}

func TestTextMalformed(t *testing.T) {
	word, key, num, quoted, symbol := api.TokWord, api.TokKey, api.TokNum, api.TokString, api.TokSymbol
	a20, d15, noughts := strings.Repeat("a", 20), strings.Repeat("9", 15), strings.Repeat("0", 15)
	wrong := map[int][]string{
		0:  {"", "a", "model", "1", "="},
		6:  {"", "a", "model", "1", "="},
		-1: {"", "a"},
		word: {"", "model", "1", "1a", "_a", "a b", "a ", " a", "a\n", "a.b", "a//", "//a", "é", "aé", "a\xff", "=", `"a"`,
			a20 + "a", strings.Repeat("a", 100000)},
		key: {"", "a", "Model", "models", "mod", "end for", "model ", "model//", "1", "="},
		num: {"", " ", "a", "-1", "+1", "01", "00", "0.5", "2.0", "1.", "1e3", "1 ", " 1", "1_0", "٣", "-1/2", "+1/2", "1/-2", "1/+2",
			"1/", "/", "/2", "1/0", "0/1", "0/0", "0/2", "1/1", "5/1", "2/4", "10/4", "01/2", "1/02", "1/2/2", "1/2 ", "1 /2", "1/ 2", "1//2",
			"0.5/2", "1/2.5", "1/2.", "1/3", "1/7", "2/3", "1/6", "1/15", "1/1024a", "a/2",
			"1000000000000000", d15 + "9", d15 + "9/2", "2000000000000001/2", "2000000000000000/2", "1/65536", "1/152587890625",
			"1/10000000000000000", "1/20000000000000000", "1" + noughts + noughts + "1/2", "3" + noughts + noughts + "/7",
			"1" + noughts + "1/1", "9" + noughts + noughts[1:] + "1/10", "36893488147419103233/2", "184467440737095516160000000000001/2",
			"1/18446744073709551616", "1/184467440737095516160", "1/4611686018427387904",
			strings.Repeat("1", 400), strings.Repeat("1", 400) + "/2", "1/" + strings.Repeat("2", 400), strings.Repeat("1/", 400)},
		quoted: {`"`, `a"b`, `a"`, `""`, `a" "b`, "a\nb", "a\tb", "\x7f", "\x1f", "é", "\xff", "a\x00", a20 + a20 + "a", strings.Repeat("a", 100000)},
		symbol: {"", "a", "!", "!=", "//", "/*", "===", "= =", " =", "= ", "=<", "<<", "><", "()", "..", ":=", "#", "_", "\"", "é", "model", "1"},
	}
	for kind, list := range wrong {
		for _, text := range list {
			for _, tokens := range [][]api.Token{{tok(kind, text)}, {tok(word, "a"), tok(kind, text), tok(symbol, ";")}} {
				if got, err := lex.Text(tokens); got != "" || err != api.ErrForm {
					t.Errorf("Text of kind %d, %.40q: %q, %d", kind, text, got, err)
				}
			}
		}
	}
}

func TestTextLimits(t *testing.T) {
	long := tok(api.TokString, strings.Repeat("a", 37)) // 40 bytes with its quotes and a blank
	bad := tok(api.TokWord, "model")
	short := slices.Repeat([]api.Token{tok(api.TokSymbol, ";")}, api.MaxTokens)
	full := slices.Repeat([]api.Token{long}, api.MaxText/40)
	for _, c := range []struct {
		tokens []api.Token
		bytes  int
		err    api.Errno
	}{
		{short, 2*api.MaxTokens - 1, api.OK},
		{append(slices.Clone(short), short[0]), 0, api.ErrSize},
		{slices.Repeat(short, 10), 0, api.ErrSize},
		{append(slices.Clone(short), bad), 0, api.ErrForm},
		{append(slices.Repeat(short, 10), bad), 0, api.ErrForm},
		{full, api.MaxText - 1, api.OK},
		{append(slices.Clone(full[1:]), tok(api.TokString, strings.Repeat("a", 38))), api.MaxText, api.OK},
		{append(slices.Clone(full[1:]), tok(api.TokString, strings.Repeat("a", 39))), 0, api.ErrSize},
		{append(slices.Clone(full), short[0]), 0, api.ErrSize},
		{append(slices.Clone(full), bad), 0, api.ErrForm},
		{slices.Repeat([]api.Token{tok(api.TokNum, "1/1024")}, 500), 500*13 - 1, api.OK}, // longer than its Text
		{slices.Repeat([]api.Token{tok(api.TokNum, "1/1024")}, 616), 0, api.ErrSize},
	} {
		if text, err := lex.Text(c.tokens); len(text) != c.bytes || err != c.err {
			t.Errorf("Text of %d tokens: %d bytes, %d, want %d, %d", len(c.tokens), len(text), err, c.bytes, c.err)
		}
	}
}

func TestTextKeepsTokens(t *testing.T) {
	tokens := []api.Token{{Kind: api.TokNum, Text: "1/2", At: 5}, {Kind: api.TokWord, Text: "a", At: 3}, {Kind: api.TokSymbol, Text: "="}}
	want := slices.Clone(tokens)
	write(t, tokens[:2])
	if !slices.Equal(tokens, want) {
		t.Errorf("the argument has changed: %v", tokens)
	}
}

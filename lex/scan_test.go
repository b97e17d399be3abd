package lex_test

import (
	"slices"
	"strings"
	"testing"

	"linkwork/api"
	"linkwork/lex"
)

func TestScanTokens(t *testing.T) {
	a20, d15 := strings.Repeat("a", 20), strings.Repeat("9", 15)
	for _, c := range []struct{ text, want string }{
		{"", ""},
		{" \t\n\n", ""},
		{"// only a remark", ""},
		{"//", ""},
		{"// one\n// two\n", ""},
		{"x1=2.50*y;", "w0:x1|y2:=|n3:5/2|y7:*|w8:y|y9:;"},
		{"a<>b//c", "w0:a|y1:<>|w3:b"},
		{"1.", "n0:1|y1:."},

		// words and keywords
		{"a", "w0:a"},
		{"Z_9", "w0:Z_9"},
		{a20, "w0:" + a20},
		{"a_b a__ a_", "w0:a_b|w4:a__|w8:a_"},
		{"model", "k0:model"},
		{"models Model mode l", "w0:models|w7:Model|w13:mode|w18:l"},
		{"endfor end for", "w0:endfor|k7:end|k11:for"},
		{"true1 true", "w0:true1|k6:true"},

		// numbers
		{"0", "n0:0"},
		{"007", "n0:7"},
		{"0.0 000.000", "n0:0|n4:0"},
		{"1.50 0.5 .5", "n0:3/2|n5:1/2|y9:.|n10:5"},
		{"2.0", "n0:2"},
		{"0.125", "n0:1/8"},
		{"0.2", "n0:1/5"},
		{d15, "n0:" + d15},
		{"000000000000001", "n0:1"},
		{d15 + "." + d15, "n0:" + d15 + d15 + "/1000000000000000"},
		{"0.000000000000001", "n0:1/1000000000000000"},
		{"1.000000000000000", "n0:1"},
		{"999999999999999.5", "n0:1999999999999999/2"},
		{"0.000030517578125", "n0:1/32768"},
		{"0.000000000032768", "n0:1/30517578125"},
		{"1.2.3", "n0:6/5|y3:.|n4:3"},
		{"1..2", "n0:1|y1:.|y2:.|n3:2"},
		{"1.a", "n0:1|y1:.|w2:a"},
		{"1. 5", "n0:1|y1:.|n3:5"},
		{"1 .5", "n0:1|y2:.|n3:5"},
		{"1a", "n0:1|w1:a"},
		{"1.5e3", "n0:3/2|w3:e3"},
		{"0x1", "n0:0|w1:x1"},
		{"a.1", "w0:a|y1:.|n2:1"},
		{"-1", "y0:-|n1:1"},
		{"+1/2", "y0:+|n1:1|y2:/|n3:2"},
		{`1"a"`, `n0:1|s1:a`},

		// strings
		{`""`, "s0:"},
		{`"a b"`, "s0:a b"},
		{`" "`, "s0: "},
		{`"~!#\//'1.50"`, `s0:~!#\//'1.50`},
		{`"` + a20 + a20 + `"`, "s0:" + a20 + a20},
		{`"a""b"`, "s0:a|s3:b"},
		{`"model"`, "s0:model"},

		// symbols
		{"()[]{},;:.=<>+-*/", "y0:(|y1:)|y2:[|y3:]|y4:{|y5:}|y6:,|y7:;|y8::|y9:.|y10:=|y11:<>|y13:+|y14:-|y15:*|y16:/"},
		{"== <= >= <> < > =", "y0:==|y3:<=|y6:>=|y9:<>|y12:<|y14:>|y16:="},
		{"===", "y0:==|y2:="},
		{"<=>", "y0:<=|y2:>"},
		{"<>=", "y0:<>|y2:="},
		{">==", "y0:>=|y2:="},
		{"=<=>", "y0:=|y1:<=|y3:>"},
		{"><", "y0:>|y1:<"},
		{"<<", "y0:<|y1:<"},
		{">>", "y0:>|y1:>"},
		{"< =", "y0:<|y2:="},
		{"/ /", "y0:/|y2:/"},
		{"/* */", "y0:/|y1:*|y3:*|y4:/"},

		// between tokens
		{"a//b\nc", "w0:a|w5:c"},
		{"a///\n/", "w0:a|y5:/"},
		{"a // b // c\n\n\td", "w0:a|w14:d"},
		{"//a\n b //c", "w5:b"},
		{"a// \"\n1", "w0:a|n6:1"},
		{"// é $ _ \xff \r \x00\na", "w16:a"},
		{"a\tb\nc d", "w0:a|w2:b|w4:c|w6:d"},
	} {
		if got := listed(scan(t, c.text)); got != c.want {
			t.Errorf("Scan(%q): %s, want %s", c.text, got, c.want)
		}
	}
}

func TestScanKeywordsAndSymbols(t *testing.T) {
	for list, kind := range map[string]int{keywords: api.TokKey, symbols: api.TokSymbol} {
		for _, text := range strings.Fields(list) {
			want := []api.Token{{Kind: kind, Text: text, At: 1}}
			if got := scan(t, " "+text); !slices.Equal(got, want) {
				t.Errorf("%s: %v", text, got)
			}
		}
	}
	if len(strings.Fields(keywords)) != 32 || len(strings.Fields(symbols)) != 21 {
		t.Error("lists of keywords and symbols")
	}
}

func TestScanMalformed(t *testing.T) {
	a20, d15 := strings.Repeat("a", 20), strings.Repeat("1", 15)
	for _, c := range []struct {
		text string
		at   int
	}{
		{`"a`, 0},
		{`"`, 0},
		{`a "b`, 2},
		{`"a" "`, 4},
		{"\"a\nb\"", 0},
		{"\"a\tb\"", 0},
		{"\"a\x7fb\"", 0},
		{"\"a\x1fb\"", 0},
		{`"é"`, 0},
		{`"` + a20 + a20 + `a"`, 0},
		{`x = "` + a20 + a20 + `a"`, 4},
		{"_", 0},
		{"_a", 0},
		{"if_ _", 4},
		{"1_", 1},
		{"a $", 2},
		{"a ! b", 2},
		{"a != b", 2},
		{"# a", 0},
		{"a & b", 2},
		{"a % b", 2},
		{"'a'", 0},
		{"a@b", 1},
		{"a?", 1},
		{`\`, 0},
		{"a^2", 1},
		{"a|b", 1},
		{"`a`", 0},
		{"~a", 0},
		{"a\rb", 1},
		{"a\r\nb", 1},
		{"a\vb", 1},
		{"a\fb", 1},
		{"a\x00", 1},
		{"a\u00a0b", 1},
		{"é", 0},
		{"aé", 1},
		{"1é", 1},
		{"٣", 0},
		{"\xff", 0},
		{"a \xc3", 2},
		{"a // b\n$", 7},
		{a20 + "a", 0},
		{"x " + a20 + "_", 2},
		{"x " + a20 + "1 $", 2},
		{d15 + "1", 0},
		{"0000000000000001", 0},
		{"1 " + d15 + "1", 2},
		{d15 + "1.5", 0},
		{"1." + d15 + "1", 0},
		{"1.0000000000000000", 0},
		{"x" + a20[2:] + "." + d15 + "1", 20},
	} {
		if tokens, at, err := lex.Scan(c.text); len(tokens) != 0 || at != c.at || err != api.ErrForm {
			t.Errorf("Scan(%q): %v, %d, %d, want %d", c.text, tokens, at, err, c.at)
		}
	}
}

// Every byte alone, and between words, is as the chapter says.
func TestScanBytes(t *testing.T) {
	for b := range 256 {
		for _, text := range []string{string([]byte{byte(b)}), "a" + string([]byte{byte(b)}) + "a"} {
			got, at, err := lex.Scan(text)
			want, wantAt, wantErr := divided(text)
			if !slices.Equal(got, want) || at != wantAt || err != wantErr {
				t.Errorf("Scan(%q): %v, %d, %d, want %v, %d, %d", text, got, at, err, want, wantAt, wantErr)
			}
		}
	}
}

func TestScanLimits(t *testing.T) {
	blanks := strings.Repeat(" ", api.MaxText-1)
	many := strings.Repeat("a ", api.MaxTokens)
	for _, c := range []struct {
		text  string
		count int
		at    int
		err   api.Errno
	}{
		{blanks + "a", 1, 0, api.OK},
		{blanks + " a", 0, 0, api.ErrSize},
		{blanks + "  ", 0, 0, api.ErrSize},
		{"$" + blanks, 0, 0, api.ErrForm},
		{"$ " + blanks, 0, 0, api.ErrSize},
		{blanks + "$", 0, api.MaxText - 1, api.ErrForm},
		{"//" + blanks[2:], 0, 0, api.OK},
		{"//" + blanks[2:] + "  ", 0, 0, api.ErrSize},
		{many, api.MaxTokens, 0, api.OK},
		{many + "// a", api.MaxTokens, 0, api.OK},
		{many + "a", 0, 0, api.ErrSize},
		{many + "a $", 0, 0, api.ErrSize},
		{many + "$", 0, 2 * api.MaxTokens, api.ErrForm},
		{strings.Repeat("(", api.MaxTokens), api.MaxTokens, 0, api.OK},
		{strings.Repeat("(", api.MaxTokens+1), 0, 0, api.ErrSize},
		{strings.Repeat("1. ", api.MaxTokens/2), api.MaxTokens, 0, api.OK},
		{strings.Repeat("1.", api.MaxTokens), api.MaxTokens, 0, api.OK}, // 1.1 . 1.1 . and so on
		{strings.Repeat("=", 2*api.MaxTokens), api.MaxTokens, 0, api.OK},
		{strings.Repeat("=", 2*api.MaxTokens+1), 0, 0, api.ErrSize},
		{strings.Repeat("a", api.MaxText), 0, 0, api.ErrForm},
		{strings.Repeat("1", api.MaxText), 0, 0, api.ErrForm},
		{strings.Repeat(`"`, api.MaxText), 0, 0, api.ErrSize},
		{strings.Repeat("//\n", api.MaxText/3), 0, 0, api.OK},
	} {
		if tokens, at, err := lex.Scan(c.text); len(tokens) != c.count || at != c.at || err != c.err {
			t.Errorf("Scan(%.20q .. of %d bytes): %d tokens, %d, %d", c.text, len(c.text), len(tokens), at, err)
		}
	}
}

func TestScanNewMemory(t *testing.T) {
	one, two := scan(t, "a + 1"), scan(t, "a + 1")
	one[0].Text, one[2].At = "b", 7
	if got := listed(two); got != "w0:a|y2:+|n4:1" {
		t.Errorf("another result has changed: %s", got)
	}
}

func TestIsWord(t *testing.T) {
	a20 := strings.Repeat("a", 20)
	for _, s := range []string{"a", "Z", "x1", "a_", "A_b_9", "models", "End", "TRUE", a20} {
		if !lex.IsWord(s) {
			t.Errorf("%q is a word", s)
		}
	}
	for _, s := range []string{"", "1", "1a", "_a", "a b", " a", "a ", "a\n", "a.b", "a-", "a'", "é", "aé", "a\xff", "\"a\"", "//a", "a//", "+", a20 + "a"} {
		if lex.IsWord(s) {
			t.Errorf("%q is no word", s)
		}
	}
	for _, s := range strings.Fields(keywords) {
		if lex.IsWord(s) {
			t.Errorf("%q is a keyword", s)
		}
		if !lex.IsWord(s+"_") || !lex.IsWord(strings.ToUpper(s)) {
			t.Errorf("what is like %q is a word", s)
		}
	}
}

package spelling_test

import (
	"regexp"
	"strings"
	"testing"

	"linkwork/spelling"
)

const keywords = "and connect connector der discrete else end equation extends false flow for if in initial input loop model not or parameter pre redeclare reinit replaceable sample size sum then time true when"

// kinds says what a text is, one letter for each kind.
func kinds(text string) string {
	found := ""
	for _, x := range []struct {
		letter string
		is     func(text string) bool
	}{{"n", spelling.IsName}, {"w", spelling.IsWord}, {"k", spelling.IsKeyword}} {
		if x.is(text) {
			found += x.letter
		}
	}
	return found
}

func TestKinds(t *testing.T) {
	for text, want := range map[string]string{
		"x": "nw", "Z": "nw", "x1": "nw", "a_B9": "nw", "x_": "nw", "End": "nw", "ends": "nw", "Real": "nw", "start": "nw",
		"": "", "1": "", "_": "", "_x": "", ".x": "", "'x": "", "[1]": "", "é": "", "aé": "", "a b": "", "a ": "", " a": "",
		"a-b": "", "a\n": "", "a\x00": "", "a\xff": "", "a:": "", "a@": "", "a`": "", "a{": "", "a/": "",
		"a.b": "n", "a.": "n", "a..b": "n", "x[1]": "n", "x[1,2].y": "n", "x]": "n", "c'a.p.v.o": "n", "e1[2].1": "n", "x'": "n",
		strings.Repeat("x", 20): "nw", strings.Repeat("x", 21): "n", strings.Repeat("x", 80): "n", strings.Repeat("x", 81): "",
		strings.Repeat("a.", 40): "n", strings.Repeat("a.", 40) + "b": "", "x" + strings.Repeat("_", 19): "nw",
	} {
		if got := kinds(text); got != want {
			t.Errorf("%q is %q, want %q", text, got, want)
		}
	}
	for _, text := range strings.Fields(keywords) {
		if got := kinds(text); got != "nk" {
			t.Errorf("%q is %q, want a name and a keyword", text, got)
		}
		if got := kinds(text + "_"); got != "nw" {
			t.Errorf("%q is %q, want a name and a word", text+"_", got)
		}
	}
}

// All bytes, as the first one and as the second one, are compared with regular expressions.
func TestBytes(t *testing.T) {
	name := regexp.MustCompile(`^[A-Za-z][][A-Za-z0-9_.,']*$`)
	word := regexp.MustCompile(`^[A-Za-z][A-Za-z0-9_]*$`)
	for c := range 256 {
		text := string([]byte{byte(c)})
		for _, text := range []string{text, "Q" + text, "Q" + text + "q"} {
			want := ""
			if name.MatchString(text) {
				want += "n"
			}
			if word.MatchString(text) {
				want += "w"
			}
			if got := kinds(text); got != want {
				t.Errorf("%q is %q, want %q", text, got, want)
			}
		}
		if got := spelling.IsLetter(byte(c)); got != word.MatchString(text) {
			t.Errorf("IsLetter(%q) = %v", text, got)
		}
	}
}

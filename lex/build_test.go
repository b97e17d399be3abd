package lex_test

import (
	"regexp"
	"strconv"
	"strings"
	"testing"

	"linkwork/api"
	"linkwork/lex"
	"linkwork/rat"
)

const keywords = "and connect connector der discrete else end equation extends false flow for if in initial input loop model not or parameter pre redeclare reinit replaceable sample size sum then time true when"

const symbols = "( ) [ ] { } , ; : . = == <> < <= > >= + - * /"

// source is a row of numbers that look random and are the same in every run.
type source uint64

func (s *source) below(n int) int {
	*s = *s*6364136223846793005 + 1442695040888963407
	return int(uint64(*s) >> 33 % uint64(n))
}

func pick[T any](s *source, list ...T) T {
	return list[s.below(len(list))]
}

// some returns up to most bytes of an alphabet.
func (s *source) some(alphabet string, least, most int) string {
	text := ""
	for range least + s.below(most-least+1) {
		text += string(alphabet[s.below(len(alphabet))])
	}
	return text
}

const (
	letters = "abxyzABXYZ"
	digits  = "0123456789"
)

// token returns the source of a token.
func (s *source) token() string {
	switch s.below(6) {
	case 0:
		return pick(s, strings.Fields(keywords)...)
	case 1:
		return s.some(letters, 1, 1) + s.some(letters+digits+"_", 0, 19)
	case 2:
		return s.decimal()
	case 3:
		return `"` + s.some(" !#$%&'()*/;<>?@[]^_`{|}~"+letters+digits, 0, 40) + `"`
	}
	return pick(s, strings.Fields(symbols)...)
}

// decimal returns the source of a number.
func (s *source) decimal() string {
	text := s.some(pick(s, digits, digits, "05", "0", "9"), 1, 15)
	if s.below(3) > 0 {
		text += "." + s.some(pick(s, digits, digits, "05", "0", "9"), 1, 15)
	}
	return text
}

// gap returns what may be between tokens, and is not empty.
func (s *source) gap() string {
	text := ""
	for range 1 + s.below(3) {
		text += pick(s, " ", "\t", "\n", "\n", "//\n", "// \"a $ // é\xff\r\x00\n")
	}
	return text
}

// source returns sources of tokens with gaps between them.
func (s *source) source(tokens int) string {
	text := pick(s, "", s.gap())
	for range tokens {
		text += s.token() + s.gap()
	}
	return text
}

func scan(t *testing.T, text string) []api.Token {
	t.Helper()
	tokens, at, err := lex.Scan(text)
	if err != api.OK || at != 0 {
		t.Fatalf("Scan(%q): %d, %d", text, at, err)
	}
	return tokens
}

func write(t *testing.T, tokens []api.Token) string {
	t.Helper()
	text, err := lex.Text(tokens)
	if err != api.OK {
		t.Fatalf("Text(%v): %d", tokens, err)
	}
	return text
}

// placeless returns tokens without At.
func placeless(tokens []api.Token) []api.Token {
	list := make([]api.Token, len(tokens))
	for i, token := range tokens {
		list[i] = api.Token{Kind: token.Kind, Text: token.Text}
	}
	return list
}

// listed returns tokens as text: the letter of the kind, At, `:`, and the Text, with `|` between.
func listed(tokens []api.Token) string {
	var list []string
	for _, token := range tokens {
		kind := "?"
		if 0 < token.Kind && token.Kind <= 5 {
			kind = string("?wknsy"[token.Kind])
		}
		list = append(list, kind+strconv.Itoa(token.At)+":"+token.Text)
	}
	return strings.Join(list, "|")
}

// The following is a second way to the tokens, by regular expressions, of which each finds the longest beginning.

var (
	gapRule    = regexp.MustCompile(`^(?:[ \t\n]|//[^\n]*)+`)
	wordRule   = regexp.MustCompile(`^[A-Za-z][A-Za-z0-9_]*`)
	numberRule = regexp.MustCompile(`^[0-9]+(?:\.[0-9]+)?`)
	numberForm = regexp.MustCompile(`^[0-9]{1,15}(?:\.[0-9]{1,15})?$`)
	stringRule = regexp.MustCompile(`^"[ !#-~]{0,40}"`)
	symbolRule = regexp.MustCompile(`^(?:==|<>|<=|>=|[][(){},;:.=<>+*/-])`)
)

// ruled returns the token that a text begins with, and its source, which is empty if there is none.
func ruled(text string) (api.Token, string) {
	if found := wordRule.FindString(text); found != "" && len(found) <= 20 {
		if strings.Contains(" "+keywords+" ", " "+found+" ") {
			return api.Token{Kind: api.TokKey, Text: found}, found
		}
		return api.Token{Kind: api.TokWord, Text: found}, found
	}
	if found := numberRule.FindString(text); numberForm.MatchString(found) {
		return api.Token{Kind: api.TokNum, Text: value(found)}, found
	}
	if found := stringRule.FindString(text); found != "" {
		return api.Token{Kind: api.TokString, Text: found[1 : len(found)-1]}, found
	}
	found := symbolRule.FindString(text)
	return api.Token{Kind: api.TokSymbol, Text: found}, found
}

// value returns the number that a decimal is.
func value(decimal string) string {
	left, right, _ := strings.Cut(decimal, ".")
	above := strings.TrimLeft(left+right, "0")
	if above == "" {
		return "0"
	}
	number, _ := rat.Div(above, "1"+strings.Repeat("0", len(right)))
	return number
}

// divided is what Scan should return.
func divided(text string) ([]api.Token, int, api.Errno) {
	if len(text) > 8000 {
		return nil, 0, api.ErrSize
	}
	var tokens []api.Token
	for at := 0; at < len(text); {
		if found := gapRule.FindString(text[at:]); found != "" {
			at += len(found)
			continue
		}
		token, found := ruled(text[at:])
		if found == "" {
			return nil, at, api.ErrForm
		}
		if len(tokens) == 2000 {
			return nil, 0, api.ErrSize
		}
		token.At = at
		tokens = append(tokens, token)
		at += len(found)
	}
	return tokens, 0, api.OK
}

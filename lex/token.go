package lex

import (
	"strings"

	"linkwork/api"
	"linkwork/spelling"
)

// The greatest lengths of tokens.
const (
	maxString = 40 // bytes between the quotes
	maxDigits = 15 // digits on one side of the point
)

// first returns the longest token that a text begins with, and its length, which is 0 if there is none.
func first(text string) (api.Token, int) {
	if text == "" {
		return api.Token{}, 0
	}
	switch classOf(rune(text[0])) {
	case letter:
		return word(text)
	case digit:
		return number(text)
	case quote:
		return quoted(text)
	case sign:
		return symbol(text)
	}
	return api.Token{}, 0
}

func word(text string) (api.Token, int) {
	length := run(text, letter, digit, bar)
	switch found := text[:length]; {
	case spelling.IsKeyword(found):
		return api.Token{Kind: api.TokKey, Text: found}, length
	case spelling.IsWord(found):
		return api.Token{Kind: api.TokWord, Text: found}, length
	}
	return api.Token{}, 0
}

// number returns the number at the beginning of a text. Without digits after it a point is a token of its own.
func number(text string) (api.Token, int) {
	whole := run(text, digit)
	places := 0
	length := whole
	if strings.HasPrefix(text[whole:], ".") {
		places = run(text[whole+1:], digit)
	}
	if places > 0 {
		length += 1 + places
	}
	if whole > maxDigits || places > maxDigits {
		return api.Token{}, 0
	}
	return api.Token{Kind: api.TokNum, Text: decimal(text[:length]).fraction()}, length
}

func quoted(text string) (api.Token, int) {
	length := run(text[1:], blank, letter, digit, bar, sign, visible)
	if length > maxString || !strings.HasPrefix(text[1+length:], `"`) {
		return api.Token{}, 0
	}
	return api.Token{Kind: api.TokString, Text: text[1 : 1+length]}, length + 2
}

func symbol(text string) (api.Token, int) {
	length := 1
	for _, double := range []string{"==", "<>", "<=", ">="} {
		if strings.HasPrefix(text, double) {
			length = len(double)
		}
	}
	return api.Token{Kind: api.TokSymbol, Text: text[:length]}, length
}

// written returns how a token is written in a source. Of what is no token it may be anything.
func written(token api.Token) string {
	switch token.Kind {
	case api.TokNum:
		return decimalOf(token.Text)
	case api.TokString:
		return `"` + token.Text + `"`
	}
	return token.Text
}

// isToken reports whether what a token is written as is read as that token again.
func isToken(token api.Token) bool {
	text := written(token)
	again, length := first(text)
	return length > 0 && length == len(text) && again.Kind == token.Kind && again.Text == token.Text
}

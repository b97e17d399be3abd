// Package spelling knows which texts are names, words and keywords. It is no layer: layers that may not call one another
// share it.
package spelling

import "linkwork/api"

const maxWord = 20 // bytes of a word

// IsName reports whether it is a name.
func IsName(text string) bool {
	if text == "" || len(text) > api.MaxName || !IsLetter(text[0]) {
		return false
	}
	for i := range len(text) {
		if !isNameByte(text[i]) {
			return false
		}
	}
	return true
}

// IsWord reports whether it is a word (chapter 5), and no keyword.
func IsWord(text string) bool {
	if text == "" || len(text) > maxWord || !IsLetter(text[0]) || IsKeyword(text) {
		return false
	}
	for i := range len(text) {
		if !isWordByte(text[i]) {
			return false
		}
	}
	return true
}

// IsKeyword reports whether it is a keyword (chapter 5).
func IsKeyword(text string) bool {
	switch text {
	case "and", "connect", "connector", "der", "discrete", "else", "end", "equation", "extends", "false", "flow", "for",
		"if", "in", "initial", "input", "loop", "model", "not", "or", "parameter", "pre", "redeclare", "reinit",
		"replaceable", "sample", "size", "sum", "then", "time", "true", "when":
		return true
	}
	return false
}

// IsLetter reports whether it is a letter.
func IsLetter(c byte) bool {
	return 'a' <= c && c <= 'z' || 'A' <= c && c <= 'Z'
}

func isWordByte(c byte) bool {
	return IsLetter(c) || '0' <= c && c <= '9' || c == '_'
}

func isNameByte(c byte) bool {
	switch c {
	case '.', '[', ']', ',', '\'':
		return true
	}
	return isWordByte(c)
}

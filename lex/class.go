package lex

import (
	"slices"
	"strings"
)

// class is what a byte of a source can be a part of.
type class int

// The classes. A rune of more than one byte, or bytes that are no rune, are strange.
const (
	strange class = iota // only in a remark
	layout               // between tokens, but not in a string
	blank
	letter
	digit
	bar     // in a word, but not at its beginning
	quote   // at both ends of a string
	sign    // in a symbol
	visible // in a string, but in no other token
)

func classOf(r rune) class {
	switch {
	case r == '\t', r == '\n':
		return layout
	case r == ' ':
		return blank
	case 'a' <= r && r <= 'z', 'A' <= r && r <= 'Z':
		return letter
	case '0' <= r && r <= '9':
		return digit
	case r == '_':
		return bar
	case r == '"':
		return quote
	case strings.ContainsRune("()[]{},;:.=<>+-*/", r):
		return sign
	case '!' <= r && r <= '~':
		return visible
	}
	return strange
}

// run returns the number of bytes at the beginning of a text that are of some classes.
func run(text string, classes ...class) int {
	for at, r := range text {
		if !slices.Contains(classes, classOf(r)) {
			return at
		}
	}
	return len(text)
}

// gap returns the number of bytes at the beginning of a text that are between tokens.
func gap(text string) int {
	at := run(text, blank, layout)
	for strings.HasPrefix(text[at:], "//") {
		line, _, _ := strings.Cut(text[at:], "\n")
		at += len(line)
		at += run(text[at:], blank, layout)
	}
	return at
}

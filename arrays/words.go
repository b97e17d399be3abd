package arrays

import (
	"strings"

	"linkwork/api"
)

// The Ops of trees for which package api has no name.
const (
	opRef  = "ref"
	opPart = "part"
	opDer  = "der"
	opSum  = "sum"
	opSize = "size"
	opList = "list"
)

// The kinds of statements, but for equal.
const (
	kindConnect = "connect"
	kindFor     = "for"
	kindIf      = "if"
	kindWhen    = "when"
	kindReinit  = "reinit"
)

// isName reports whether a text is a name of a line.
func isName(text string) bool {
	if text == "" || len(text) > api.MaxName || !isLetter(rune(text[0])) {
		return false
	}
	for _, char := range text {
		if !isLetter(char) && !strings.ContainsRune("0123456789_.[],'", char) {
			return false
		}
	}
	return true
}

func isLetter(char rune) bool {
	return 'a' <= char && char <= 'z' || 'A' <= char && char <= 'Z'
}

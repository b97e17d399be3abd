package system

import (
	"strings"

	"linkwork/api"
)

// The marks in texts of expressions.
const (
	varMark   = "@"
	orderMark = ":"
	tick      = "'"
	openMark  = "("
	closeMark = ")"
	kidMark   = ";"
)

// The words that the properties of a variable begin with.
const (
	valueWord = "value="
	startWord = "start="
	fixedWord = "fixed"
	unitWord  = "unit="
)

// kindWords returns the words for the kinds of variables, by their numbers.
func kindWords() []string {
	return []string{"continuous", "discrete", "param", "input"}
}

// typeWords returns the words for the types of variables, by their numbers.
func typeWords() []string {
	return []string{"number", "truth"}
}

// actWords returns the words for the kinds of acts, by their numbers.
func actWords() []string {
	return []string{"assign", "reinit"}
}

// exprText returns the text of a well built expression.
func exprText(e api.Expr) string {
	switch e.Op {
	case api.Num:
		return e.Text
	case api.Pre:
		return api.Pre + varMark + e.Text
	case api.Ref:
		if e.Order == 0 {
			return varMark + e.Text
		}
		return varMark + e.Text + orderMark + strings.Repeat(tick, e.Order)
	}
	if len(e.Kids) == 0 {
		return e.Op
	}
	kids := make([]string, len(e.Kids))
	for i, kid := range e.Kids {
		kids[i] = exprText(kid)
	}
	return e.Op + openMark + strings.Join(kids, kidMark) + closeMark
}

// systemText returns the text of a valid system.
func systemText(s api.System) string {
	var text strings.Builder
	for _, v := range s.Vars {
		writeLine(&text, varWords(v)...)
	}
	for _, q := range s.Eqs {
		writeLine(&text, "eq", q.Name, exprText(q.Left), exprText(q.Right))
	}
	for _, q := range s.Inits {
		writeLine(&text, "init", q.Name, exprText(q.Left), exprText(q.Right))
	}
	for _, w := range s.Whens {
		writeLine(&text, whenWords(w)...)
	}
	return text.String()
}

func writeLine(text *strings.Builder, words ...string) {
	text.WriteString(strings.Join(words, " "))
	text.WriteString("\n")
}

func varWords(v api.Var) []string {
	words := []string{"var", v.Name, kindWords()[v.Kind], typeWords()[v.Type]}
	if v.Value != "" {
		words = append(words, valueWord+v.Value)
	}
	if v.Start != "" {
		words = append(words, startWord+v.Start)
	}
	if v.Fixed {
		words = append(words, fixedWord)
	}
	if v.Unit != "" {
		words = append(words, unitWord+v.Unit)
	}
	return words
}

func whenWords(w api.When) []string {
	words := []string{"when", w.Name, exprText(w.Cond)}
	for _, a := range w.Acts {
		words = append(words, actWords()[a.Kind], a.Var, exprText(a.Value))
	}
	return words
}

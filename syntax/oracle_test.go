package syntax_test

import (
	"strings"

	"linkwork/api"
)

// The following is a second way to expressions: tokens are divided at their weakest operator.

// ruled returns the notation of the expression that tokens are; empty if they are none.
func ruled(tokens []api.Token) string {
	if len(tokens) == 0 {
		return ""
	}
	if isText(tokens[0], "if") {
		return ruledIf(tokens)
	}
	if len(outside(tokens, "if")) > 0 {
		return ""
	}
	return ruledFrom(tokens, 0)
}

func isText(token api.Token, text string) bool {
	return (token.Kind == api.TokKey || token.Kind == api.TokSymbol) && token.Text == text
}

// outside returns the places of texts in tokens that are not within brackets.
func outside(tokens []api.Token, texts ...string) []int {
	var places []int
	depth := 0
	for i, token := range tokens {
		if token.Kind == api.TokSymbol && strings.Contains(") ] }", token.Text) {
			depth--
		}
		for _, text := range texts {
			if depth == 0 && isText(token, text) {
				places = append(places, i)
			}
		}
		if token.Kind == api.TokSymbol && strings.Contains("( [ {", token.Text) {
			depth++
		}
	}
	return places
}

// called writes an Op with the notations of its kids; nothing if one of them is missing.
func called(op string, kids ...string) string {
	for _, kid := range kids {
		if kid == "" {
			return ""
		}
	}
	return op + "(" + strings.Join(kids, ", ") + ")"
}

// ruledIf takes if and else as a pair of brackets, with a then in the middle.
func ruledIf(tokens []api.Token) string {
	depth, then := 0, 0
	for _, i := range outside(tokens, "if", "then", "else") {
		switch {
		case tokens[i].Text == "if":
			depth++
		case tokens[i].Text == "then" && depth == 1 && then == 0:
			then = i
		case tokens[i].Text == "else" && depth == 1 && then > 0:
			return called("if", ruled(tokens[1:then]), ruled(tokens[then+1:i]), ruled(tokens[i+1:]))
		case tokens[i].Text == "else":
			depth--
		}
	}
	return ""
}

// ruledFrom divides tokens at the operators of a level, and of those above it.
func ruledFrom(tokens []api.Token, level int) string {
	if len(tokens) == 0 {
		return ""
	}
	if level == len(symbols) {
		return ruledRest(tokens)
	}
	if level == 2 && isText(tokens[0], "not") {
		return called("not", ruledFrom(tokens[1:], 2))
	}
	var texts []string
	ops := map[string]string{}
	for _, s := range symbols[level] {
		texts = append(texts, s[1])
		ops[s[1]] = s[0]
	}
	places := outside(tokens, texts...)
	if len(places) == 0 {
		return ruledFrom(tokens, level+1)
	}
	last := places[len(places)-1]
	right := ruledFrom(tokens[last+1:], level+1)
	if last == 0 && isText(tokens[0], "-") {
		return called("neg", right)
	}
	if level == 2 && len(places) > 1 {
		return ""
	}
	left := ruledFrom(tokens[:last], level)
	return called(ops[tokens[last].Text], left, right)
}

// ruledRest takes what has no operator outside of brackets.
func ruledRest(tokens []api.Token) string {
	last := len(tokens) - 1
	switch first := tokens[0]; {
	case first.Kind == api.TokNum && last == 0:
		return first.Text
	case first.Kind == api.TokWord:
		return ruledRef(tokens)
	case first.Kind == api.TokKey && last == 0 && strings.Contains(" true false time ", " "+first.Text+" "):
		return first.Text
	case last == 0:
		return ""
	case isText(first, "(") && isText(tokens[last], ")"):
		return ruled(tokens[1:last])
	case isText(first, "{") && isText(tokens[last], "}"):
		return called("list", ruledList(tokens[1:last], 12)...)
	case isText(tokens[1], "(") && isText(tokens[last], ")"):
		return ruledCall(first, tokens[2:last])
	}
	return ""
}

func ruledCall(key api.Token, tokens []api.Token) string {
	if key.Kind != api.TokKey {
		return ""
	}
	kids := ruledList(tokens, 2)
	commas := outside(tokens, ",")
	switch {
	case key.Text == "initial" && len(tokens) == 0:
		return "initial"
	case key.Text == "sum" && len(kids) == 1, key.Text == "sample" && len(kids) == 2:
		return called(key.Text, kids...)
	case (key.Text == "der" || key.Text == "pre") && len(kids) == 1:
		return called(key.Text, ruledRef(tokens))
	case key.Text == "size" && len(kids) == 2 && len(commas) == 1:
		return called("size", ruledRef(tokens[:commas[0]]), kids[1])
	}
	return ""
}

// ruledList takes expressions with commas between, one at least; otherwise one of them is missing.
func ruledList(tokens []api.Token, most int) []string {
	var kids []string
	from := 0
	for _, comma := range append(outside(tokens, ","), len(tokens)) {
		kids = append(kids, ruled(tokens[from:comma]))
		from = comma + 1
	}
	if len(kids) > most {
		return []string{""}
	}
	return kids
}

func ruledRef(tokens []api.Token) string {
	var parts []string
	from := 0
	for _, point := range append(outside(tokens, "."), len(tokens)) {
		part := tokens[from:point]
		from = point + 1
		if len(part) == 0 || part[0].Kind != api.TokWord {
			return ""
		}
		text := part[0].Text
		if len(part) > 1 {
			if !isText(part[1], "[") || !isText(part[len(part)-1], "]") || len(outside(part, "[")) != 1 {
				return ""
			}
			kids := ruledList(part[2:len(part)-1], 2)
			if called("", kids...) == "" {
				return ""
			}
			text += "[" + strings.Join(kids, ",") + "]"
		}
		parts = append(parts, text)
	}
	return strings.Join(parts, ".")
}

package system

import (
	"slices"
	"strings"

	"linkwork/api"
)

// readSystem returns the system that has a text, if there is one. Since it may read other texts, too, what it returns
// must be checked, and its text compared.
func readSystem(text string) (api.System, bool) {
	var s api.System
	for line := range strings.Lines(text) {
		words := strings.Split(strings.TrimSuffix(line, "\n"), " ")
		ok := len(words) > 2
		switch words[0] {
		case "var":
			ok = ok && readVar(&s, words)
		case "eq":
			ok = ok && readEq(&s.Eqs, words)
		case "init":
			ok = ok && readEq(&s.Inits, words)
		case "when":
			ok = ok && readWhen(&s, words)
		default:
			ok = false
		}
		if !ok {
			return api.System{}, false
		}
	}
	return s, true
}

func readVar(s *api.System, words []string) bool {
	if len(words) < 4 {
		return false
	}
	v := api.Var{Name: words[1], Kind: slices.Index(kindWords(), words[2]), Type: slices.Index(typeWords(), words[3])}
	for _, word := range words[4:] {
		if text, ok := strings.CutPrefix(word, valueWord); ok {
			v.Value = text
		}
		if text, ok := strings.CutPrefix(word, startWord); ok {
			v.Start = text
		}
		if text, ok := strings.CutPrefix(word, unitWord); ok {
			v.Unit = text
		}
		v.Fixed = v.Fixed || word == fixedWord
	}
	s.Vars = append(s.Vars, v)
	return true
}

func readEq(list *[]api.Eq, words []string) bool {
	if len(words) != 4 {
		return false
	}
	left, ok := readExpr(words[2])
	if !ok {
		return false
	}
	right, ok := readExpr(words[3])
	if !ok {
		return false
	}
	*list = append(*list, api.Eq{Name: words[1], Left: left, Right: right})
	return true
}

func readWhen(s *api.System, words []string) bool {
	cond, ok := readExpr(words[2])
	if !ok || len(words)%3 != 0 {
		return false
	}
	w := api.When{Name: words[1], Cond: cond}
	for act := range slices.Chunk(words[3:], 3) {
		by, ok := readExpr(act[2])
		if !ok {
			return false
		}
		w.Acts = append(w.Acts, api.Act{Kind: slices.Index(actWords(), act[0]), Var: act[1], Value: by})
	}
	s.Whens = append(s.Whens, w)
	return true
}

// readExpr returns the expression that has a text, as readSystem does it.
func readExpr(text string) (api.Expr, bool) {
	e, rest, ok := readFirst(text, 1)
	return e, ok && rest == ""
}

// readFirst returns the expression at the beginning of a text, and what is behind it. It does not go deeper than an
// expression may be.
func readFirst(text string, level int) (api.Expr, string, bool) {
	end := strings.IndexAny(text, openMark+closeMark+kidMark)
	if end < 0 {
		return readLeaf(text), "", true
	}
	word, rest := text[:end], text[end:]
	if !strings.HasPrefix(rest, openMark) {
		return readLeaf(word), rest, true
	}
	if level == api.MaxDepth {
		return api.Expr{}, "", false
	}
	e := api.Expr{Op: word}
	for mark := openMark; mark != closeMark; mark = rest[:1] {
		kid, behind, ok := readFirst(strings.TrimPrefix(rest, mark), level+1)
		if !ok || !strings.HasPrefix(behind, kidMark) && !strings.HasPrefix(behind, closeMark) {
			return api.Expr{}, "", false
		}
		e.Kids = append(e.Kids, kid)
		rest = behind
	}
	return e, rest[1:], true
}

// readLeaf returns the expression without kids that a word is.
func readLeaf(word string) api.Expr {
	switch word {
	case api.True, api.False, api.Time, api.Initial:
		return api.Expr{Op: word}
	}
	if name, ok := strings.CutPrefix(word, api.Pre+varMark); ok {
		return api.Expr{Op: api.Pre, Text: name}
	}
	if name, ok := strings.CutPrefix(word, varMark); ok {
		name, ticks, _ := strings.Cut(name, orderMark)
		return api.Expr{Op: api.Ref, Text: name, Order: len(ticks)}
	}
	return api.Expr{Op: api.Num, Text: word}
}

package arrays

import (
	"cmp"
	"slices"

	"linkwork/api"
	"linkwork/syntax"
)

// inOrder returns a statement with the bodies of for and if, also of those within, in the order of their texts.
func inOrder(x api.Stmt) api.Stmt {
	if x.Kind != kindWhen {
		x.Body = sorted(x.Body)
		x.Else = sorted(x.Else)
	}
	return x
}

func sorted(list []api.Stmt) []api.Stmt {
	type written struct {
		text string
		stmt api.Stmt
	}
	var all []written
	for _, x := range list {
		all = append(all, written{textOf(x), inOrder(x)})
	}
	slices.SortStableFunc(all, func(a, b written) int { return cmp.Compare(a.text, b.text) })
	var result []api.Stmt
	for _, w := range all {
		result = append(result, w.stmt)
	}
	return result
}

// textOf returns the text of a statement. It is no call of syntax.Line, since that has none for a statement whose text
// is longer than a source, which has its place in the order, too.
func textOf(x api.Stmt) string {
	switch x.Kind {
	case kindConnect, kindReinit:
		return x.Kind + " ( " + shown(x.Left) + " , " + shown(x.Right) + " ) ;"
	case kindFor:
		return "for " + x.Var + " in " + shown(x.From) + " : " + shown(x.To) + " loop " + bodyText(x.Body) + "end for ;"
	case kindIf, kindWhen:
		text := x.Kind + " " + shown(x.Cond) + " then " + bodyText(x.Body)
		if len(x.Else) > 0 {
			text += "else " + bodyText(x.Else)
		}
		return text + "end " + x.Kind + " ;"
	}
	left := shown(x.Left)
	if x.Left[0].Op == api.If {
		left = "( " + left + " )" // at the beginning of a statement an if is another one
	}
	return left + " = " + shown(x.Right) + " ;"
}

func bodyText(list []api.Stmt) string {
	text := ""
	for _, x := range list {
		text += textOf(x) + " "
	}
	return text
}

// shown returns the text of the expression in a list of one, which is never too long.
func shown(list []api.Tree) string {
	text, _ := syntax.Show(list[0])
	return text
}

package syntax

import (
	"slices"

	"linkwork/api"
	"linkwork/lex"
)

// What follows is asked of parts of which nothing is too much.

func isClass(c api.Class) bool {
	return isClassKind(c.Kind) && lex.IsWord(c.Name) && every(c.Extends, isExtend) && every(c.Comps, isComp) &&
		areStmts(c.Eqs, inEqs) && areStmts(c.Inits, inInits)
}

func isExtend(x api.Extend) bool {
	return lex.IsWord(x.Class) && every(x.Mods, isMod)
}

func isComp(c api.Comp) bool {
	return (c.Prefix == "" || slices.Contains(prefixes(), c.Prefix)) && lex.IsWord(c.Class) && lex.IsWord(c.Name) &&
		len(c.Dims) <= maxIndices && every(c.Dims, isExpr) && every(c.Mods, isMod) &&
		len(c.Value) <= 1 && every(c.Value, isExpr)
}

func isMod(m api.Mod) bool {
	if !lex.IsWord(m.Name) {
		return false
	}
	switch {
	case m.Class != "":
		return lex.IsWord(m.Class) && len(m.Value) == 0 && len(m.Mods) == 0
	case len(m.Mods) > 0:
		return len(m.Value) == 0 && every(m.Mods, isMod)
	}
	return isOne(m.Value, isValue)
}

// isValue reports whether a tree may be the value of a modification.
func isValue(t api.Tree) bool {
	if t.Op == opString {
		return isToken(api.TokString, t.Text) && len(t.Kids) == 0
	}
	return isExpr(t)
}

func areStmts(list []api.Stmt, in section) bool {
	return every(list, func(s api.Stmt) bool { return isStmt(s, in) })
}

func isStmt(s api.Stmt, in section) bool {
	if !in.allows(s.Kind) {
		return false
	}
	switch s.Kind {
	case kindConnect:
		return isOne(s.Left, isRef) && isOne(s.Right, isRef) && isFlat(s)
	case kindReinit:
		return isOne(s.Left, isRef) && isOne(s.Right, isExpr) && isFlat(s)
	case kindFor:
		return lex.IsWord(s.Var) && isOne(s.From, isExpr) && isOne(s.To, isExpr) && areStmts(s.Body, in) &&
			areEmpty(s.Left, s.Right, s.Cond) && len(s.Else) == 0
	case kindIf:
		return isOne(s.Cond, isExpr) && areStmts(s.Body, in) && areStmts(s.Else, in) &&
			areEmpty(s.Left, s.Right, s.From, s.To) && s.Var == ""
	case kindWhen:
		return isOne(s.Cond, isExpr) && len(s.Body) > 0 && areStmts(s.Body, inActs) &&
			areEmpty(s.Left, s.Right, s.From, s.To) && s.Var == "" && len(s.Else) == 0
	}
	isLeft := isExpr
	if in == inActs {
		isLeft = isRef
	}
	return isOne(s.Left, isLeft) && isOne(s.Right, isExpr) && isFlat(s)
}

// isFlat reports whether a statement has nothing but its Kind, Left and Right.
func isFlat(s api.Stmt) bool {
	return areEmpty(s.From, s.To, s.Cond) && s.Var == "" && len(s.Body) == 0 && len(s.Else) == 0
}

func areEmpty(lists ...[]api.Tree) bool {
	return every(lists, func(list []api.Tree) bool { return len(list) == 0 })
}

func isExpr(t api.Tree) bool {
	switch t.Op {
	case api.Num:
		return isToken(api.TokNum, t.Text) && len(t.Kids) == 0
	case opRef:
		return isRef(t)
	}
	least, most, refs := kidsOf(t.Op)
	count := len(t.Kids)
	return t.Text == "" && least <= count && count <= most && every(t.Kids[:refs], isRef) && every(t.Kids[refs:], isExpr)
}

// kidsOf returns how many kids an Op of an expression has, at least and at most, and how many of them, the first ones,
// are refs. Of what is no such Op the one is more than the other.
func kidsOf(op string) (least, most, refs int) {
	if kids, refs, ok := callOf(op); ok {
		return kids, kids, refs
	}
	if _, symbol := levelOf(op); symbol != "" {
		return 2, 2, 0
	}
	switch op {
	case api.True, api.False, api.Time:
		return 0, 0, 0
	case api.Neg, api.Not:
		return 1, 1, 0
	case api.If:
		return 3, 3, 0
	case opList:
		return 1, api.MaxDim, 0
	}
	return 1, 0, 0
}

func isRef(t api.Tree) bool {
	return t.Op == opRef && t.Text == "" && len(t.Kids) > 0 && every(t.Kids, isPart)
}

func isPart(t api.Tree) bool {
	return t.Op == opPart && lex.IsWord(t.Text) && len(t.Kids) <= maxIndices && every(t.Kids, isExpr)
}

// isToken reports whether a text is that of a token of a kind.
func isToken(kind int, text string) bool {
	_, err := lex.Text([]api.Token{{Kind: kind, Text: text}})
	return err == api.OK
}

func isOne(list []api.Tree, valid func(t api.Tree) bool) bool {
	return len(list) == 1 && valid(list[0])
}

func every[T any](list []T, valid func(part T) bool) bool {
	return !slices.ContainsFunc(list, func(part T) bool { return !valid(part) })
}

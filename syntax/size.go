package syntax

import (
	"slices"

	"linkwork/api"
)

// maxNested is how deep modifications, and bodies of statements, may be nested.
const maxNested = 6

// All that is too much is found without going through all of it, since parts may lead back to where they came from.

// classTooMuch reports whether something of a class is too much.
func classTooMuch(c api.Class) bool {
	if max(len(c.Extends), len(c.Comps), len(c.Eqs), len(c.Inits)) > api.MaxPart {
		return true
	}
	extends := func(x api.Extend) bool { return modsTooMuch(x.Mods, 1) }
	stmt := func(s api.Stmt) bool { return stmtTooMuch(s, 0) }
	return slices.ContainsFunc(c.Extends, extends) || slices.ContainsFunc(c.Comps, compTooMuch) ||
		slices.ContainsFunc(c.Eqs, stmt) || slices.ContainsFunc(c.Inits, stmt)
}

func compTooMuch(c api.Comp) bool {
	return treesTooLarge(c.Dims) || modsTooMuch(c.Mods, 1) || treesTooLarge(c.Value)
}

// modsTooMuch reports whether something of modifications is too much, which are nested so deep.
func modsTooMuch(list []api.Mod, depth int) bool {
	if len(list) > 0 && depth > maxNested || len(list) > api.MaxPart {
		return true
	}
	return slices.ContainsFunc(list, func(m api.Mod) bool {
		return treesTooLarge(m.Value) || modsTooMuch(m.Mods, depth+1)
	})
}

// stmtTooMuch reports whether something of a statement is too much, which is within so many bodies of others.
func stmtTooMuch(s api.Stmt, depth int) bool {
	if hasBody(s) && depth == maxNested || max(len(s.Body), len(s.Else)) > api.MaxPart {
		return true
	}
	if treesTooLarge(s.Left, s.Right, s.From, s.To, s.Cond) {
		return true
	}
	within := func(s api.Stmt) bool { return stmtTooMuch(s, depth+1) }
	return slices.ContainsFunc(s.Body, within) || slices.ContainsFunc(s.Else, within)
}

// hasBody reports whether there is a body in a statement. Those of some kinds have one even if nothing is in it.
func hasBody(s api.Stmt) bool {
	switch s.Kind {
	case kindFor, kindIf, kindWhen:
		return true
	}
	return len(s.Body) > 0 || len(s.Else) > 0
}

func treesTooLarge(lists ...[]api.Tree) bool {
	for _, list := range lists {
		if slices.ContainsFunc(list, treeTooLarge) {
			return true
		}
	}
	return false
}

func treeTooLarge(t api.Tree) bool {
	size := 0
	var tooLarge func(t api.Tree, depth int) bool
	tooLarge = func(t api.Tree, depth int) bool {
		size++
		if depth > api.MaxDepth || size > api.MaxTree {
			return true
		}
		return slices.ContainsFunc(t.Kids, func(kid api.Tree) bool { return tooLarge(kid, depth+1) })
	}
	return tooLarge(t, 1)
}

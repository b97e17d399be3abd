package names

import "linkwork/api"

// copied returns a new list of copies.
func copied[T any](list []T, copyOf func(part T) T) []T {
	var copies []T
	for _, part := range list {
		copies = append(copies, copyOf(part))
	}
	return copies
}

// copyFull copies a full class, which has no extends clauses.
func copyFull(c api.Class) api.Class {
	c.Comps = copied(c.Comps, copyComp)
	c.Eqs = copied(c.Eqs, copyStmt)
	c.Inits = copied(c.Inits, copyStmt)
	return c
}

func copyComp(c api.Comp) api.Comp {
	c.Dims = copied(c.Dims, copyTree)
	c.Mods = copied(c.Mods, copyMod)
	c.Value = copied(c.Value, copyTree)
	return c
}

func copyMod(m api.Mod) api.Mod {
	m.Value = copied(m.Value, copyTree)
	m.Mods = copied(m.Mods, copyMod)
	return m
}

func copyStmt(s api.Stmt) api.Stmt {
	s.Left = copied(s.Left, copyTree)
	s.Right = copied(s.Right, copyTree)
	s.From = copied(s.From, copyTree)
	s.To = copied(s.To, copyTree)
	s.Cond = copied(s.Cond, copyTree)
	s.Body = copied(s.Body, copyStmt)
	s.Else = copied(s.Else, copyStmt)
	return s
}

func copyTree(t api.Tree) api.Tree {
	t.Kids = copied(t.Kids, copyTree)
	return t
}

package system

import (
	"slices"

	"linkwork/api"
)

// renamed returns a system with other names of variables, and all memory new.
func renamed(s api.System, name func(old string) string) api.System {
	var r api.System
	for _, v := range s.Vars {
		v.Name = name(v.Name)
		r.Vars = append(r.Vars, v)
	}
	r.Eqs = renamedEqs(s.Eqs, name)
	r.Inits = renamedEqs(s.Inits, name)
	for _, w := range s.Whens {
		acts := make([]api.Act, len(w.Acts))
		for i, a := range w.Acts {
			acts[i] = api.Act{Kind: a.Kind, Var: name(a.Var), Value: renamedExpr(a.Value, name)}
		}
		r.Whens = append(r.Whens, api.When{Name: w.Name, Cond: renamedExpr(w.Cond, name), Acts: acts})
	}
	return r
}

func renamedEqs(list []api.Eq, name func(old string) string) []api.Eq {
	var r []api.Eq
	for _, q := range list {
		r = append(r, api.Eq{Name: q.Name, Left: renamedExpr(q.Left, name), Right: renamedExpr(q.Right, name)})
	}
	return r
}

func renamedExpr(e api.Expr, name func(old string) string) api.Expr {
	r := api.Expr{Op: e.Op, Text: e.Text, Order: e.Order}
	if e.Op == api.Ref || e.Op == api.Pre {
		r.Text = name(e.Text)
	}
	for _, kid := range e.Kids {
		r.Kids = append(r.Kids, renamedExpr(kid, name))
	}
	return r
}

// copied returns the same system in new memory.
func copied(s api.System) api.System {
	return renamed(s, func(old string) string { return old })
}

// putInOrder brings all lists of a system in order.
func putInOrder(s api.System) {
	slices.SortFunc(s.Vars, byName(varName))
	slices.SortFunc(s.Eqs, byName(eqName))
	slices.SortFunc(s.Inits, byName(eqName))
	slices.SortFunc(s.Whens, byName(whenName))
}

// newNames returns a function that gives each name of `from` the one at the same place of `to`.
func newNames(from, to []string) func(old string) string {
	names := make(map[string]string)
	for i, old := range from {
		names[old] = to[i]
	}
	return func(old string) string {
		if name, ok := names[old]; ok {
			return name
		}
		return old
	}
}

// united returns the system that has everything of two, in order; false if parts of the same kind have the same name.
func united(a, b api.System) (api.System, bool) {
	a, b = copied(a), copied(b)
	s := api.System{
		Vars:  append(a.Vars, b.Vars...),
		Eqs:   append(a.Eqs, b.Eqs...),
		Inits: append(a.Inits, b.Inits...),
		Whens: append(a.Whens, b.Whens...),
	}
	putInOrder(s)
	return s, rising(s.Vars, byName(varName)) && rising(s.Eqs, byName(eqName)) &&
		rising(s.Inits, byName(eqName)) && rising(s.Whens, byName(whenName))
}

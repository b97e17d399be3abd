package rows

import "linkwork/api"

func build(op string, kids ...api.Expr) api.Expr {
	return api.Expr{Op: op, Kids: kids}
}

func numeral(text string) api.Expr {
	return api.Expr{Op: api.Num, Text: text}
}

// occurrence returns the expression that is a use.
func occurrence(u api.Use) api.Expr {
	if u.Pre {
		return api.Expr{Op: api.Pre, Text: u.Name, Order: u.Order}
	}
	return api.Expr{Op: api.Ref, Text: u.Name, Order: u.Order}
}

// withKids returns an expression with what a function returns for each of its kids, in new memory.
func withKids(e api.Expr, kid func(e api.Expr) api.Expr) api.Expr {
	r := api.Expr{Op: e.Op, Text: e.Text, Order: e.Order}
	for _, k := range e.Kids {
		r.Kids = append(r.Kids, kid(k))
	}
	return r
}

func copied(e api.Expr) api.Expr {
	return withKids(e, copied)
}

// derivative returns the derivative of an expression with the type number, and with Orders that can be raised.
func derivative(e api.Expr, vars map[string]api.Var) api.Expr {
	derived := func(kid api.Expr) api.Expr { return derivative(kid, vars) }
	switch e.Op {
	case api.Time:
		return numeral("1")
	case api.Ref:
		if kind := vars[e.Text].Kind; kind == api.Continuous || kind == api.Input {
			return occurrence(api.Use{Name: e.Text, Order: e.Order + 1})
		}
	case api.Neg, api.Add, api.Sub:
		return withKids(e, derived)
	case api.Mul:
		a, b := e.Kids[0], e.Kids[1]
		return build(api.Add, build(api.Mul, derived(a), copied(b)), build(api.Mul, copied(a), derived(b)))
	case api.Div:
		a, b := e.Kids[0], e.Kids[1]
		change := build(api.Sub, build(api.Mul, derived(a), copied(b)), build(api.Mul, copied(a), derived(b)))
		return build(api.Div, change, build(api.Mul, copied(b), copied(b)))
	case api.If:
		return build(api.If, copied(e.Kids[0]), derived(e.Kids[1]), derived(e.Kids[2]))
	}
	return numeral("0")
}

// put returns an expression with another one in the place of each occurrence of a use.
func put(e api.Expr, u api.Use, by api.Expr) api.Expr {
	if old := occurrence(u); e.Op == old.Op && e.Text == old.Text && e.Order == old.Order {
		return copied(by)
	}
	return withKids(e, func(kid api.Expr) api.Expr { return put(kid, u, by) })
}

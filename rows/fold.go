package rows

import (
	"linkwork/api"
	"linkwork/system"
)

// Folding goes in two steps, since only numbers that are left at the end may not have too many digits: first kids are
// chosen, then what has a value is replaced by it.

// chosen returns an expression in which an if, an and, an or whose first kid has a value is one of its kids.
func chosen(e api.Expr) api.Expr {
	e = withKids(e, chosen)
	if e.Op != api.If && e.Op != api.And && e.Op != api.Or {
		return e
	}
	first, err := constant(e.Kids[0])
	switch {
	case err != api.OK:
		return e
	case e.Op == api.If && first == api.False:
		return e.Kids[2]
	case e.Op == api.Or && first == api.True, e.Op == api.And && first == api.False:
		return e.Kids[0]
	}
	return e.Kids[1]
}

// settled returns an expression with values in the place of all that has one; ErrSize if a number has too many digits.
func settled(e api.Expr) (api.Expr, api.Errno) {
	value, err := constant(e)
	if err == api.ErrSize {
		return api.Expr{}, err
	}
	if err == api.OK {
		return literal(value), api.OK
	}
	r := api.Expr{Op: e.Op, Text: e.Text, Order: e.Order}
	for _, kid := range e.Kids {
		k, err := settled(kid)
		if err != api.OK {
			return api.Expr{}, err
		}
		r.Kids = append(r.Kids, k)
	}
	return r, api.OK
}

// constant returns the value that an expression has at any time and with any binds; ErrNone if it looks at these.
func constant(e api.Expr) (string, api.Errno) {
	if !isConstant(e) {
		return "", api.ErrNone
	}
	return system.Eval(api.System{}, e, api.Env{Time: "0"})
}

// isConstant reports whether an expression looks neither at the time nor at binds.
func isConstant(e api.Expr) bool {
	switch e.Op {
	case api.Ref, api.Pre, api.Time, api.Initial, api.Sample:
		return false
	}
	return every(e.Kids, isConstant)
}

// literal returns the expression that is a value.
func literal(value string) api.Expr {
	if value == api.True || value == api.False {
		return api.Expr{Op: value}
	}
	return numeral(value)
}

package rows

import (
	"cmp"
	"strings"

	"linkwork/api"
)

// columns are unknowns, each with its index.
type columns map[api.Use]int

// checkedLinear returns the unknowns, and the errors of IsLinear.
func checkedLinear(s api.System, e api.Expr, unknowns []api.Use) (columns, api.Errno) {
	if err := checkNumber(s, e); err != api.OK {
		return nil, err
	}
	among, ok := columnsOf(s, unknowns)
	if !ok {
		return nil, api.ErrForm
	}
	return among, api.OK
}

// columnsOf returns unknowns of a valid system; false if they are none.
func columnsOf(s api.System, unknowns []api.Use) (columns, bool) {
	if len(unknowns) > api.MaxUses {
		return nil, false
	}
	vars := variables(s)
	among := make(columns)
	for i, u := range unknowns {
		v, ok := vars[u.Name]
		if !ok || v.Kind != api.Continuous || u.Pre || u.Order < 0 || u.Order > api.MaxOrder {
			return nil, false
		}
		if i > 0 && compareUnknowns(unknowns[i-1], u) >= 0 {
			return nil, false
		}
		among[u] = i
	}
	return among, true
}

// compareUnknowns compares uses without Pre.
func compareUnknowns(a, b api.Use) int {
	return cmp.Or(strings.Compare(a.Name, b.Name), cmp.Compare(a.Order, b.Order))
}

// column returns the index of the unknown that an expression is, if it is one.
func (among columns) column(e api.Expr) (int, bool) {
	if e.Op != api.Ref {
		return 0, false
	}
	at, ok := among[api.Use{Name: e.Text, Order: e.Order}]
	return at, ok
}

// none reports whether an expression has none of the unknowns.
func (among columns) none(e api.Expr) bool {
	_, is := among.column(e)
	return !is && every(e.Kids, among.none)
}

// linear reports whether an expression with the type number is linear.
func (among columns) linear(e api.Expr) bool {
	if among.none(e) {
		return true
	}
	switch e.Op {
	case api.Ref:
		return true
	case api.Neg, api.Add, api.Sub:
		return every(e.Kids, among.linear)
	case api.Mul:
		return every(e.Kids, among.linear) && (among.none(e.Kids[0]) || among.none(e.Kids[1]))
	case api.Div:
		return among.linear(e.Kids[0]) && among.none(e.Kids[1])
	}
	// It is an if: no other number has kids.
	return among.none(e.Kids[0]) && every(e.Kids[1:], among.linear)
}

package rows

import (
	"linkwork/api"
	"linkwork/exact"
	"linkwork/system"
)

// coefficient is a number as rows need it, whose zero value is 0.
type coefficient[C any] interface {
	Plus(b C) C
	Times(b C) C
}

// row is a sum of unknowns, times their coefficients, and of a constant.
type row[C coefficient[C]] struct {
	coeffs   map[int]C // by the indices of the unknowns; those of all others are 0
	constant C
}

// scaled is a row times a factor.
type scaled[C coefficient[C]] struct {
	row[C]
	factor C
}

func (r row[C]) times(factor C) scaled[C] {
	return scaled[C]{r, factor}
}

// sum adds scaled rows.
func sum[C coefficient[C]](parts ...scaled[C]) row[C] {
	total := row[C]{coeffs: make(map[int]C)}
	for _, part := range parts {
		for at, c := range part.coeffs {
			total.coeffs[at] = total.coeffs[at].Plus(c.Times(part.factor))
		}
		total.constant = total.constant.Plus(part.constant.Times(part.factor))
	}
	return total
}

// numbers is a row before its digits are counted.
type numbers = row[exact.Number]

// number returns the number that a text is, which is one.
func number(text string) exact.Number {
	a, _ := exact.Read(text)
	return a
}

// texts returns the coefficients of a row, for that many unknowns, and its constant.
func texts(r numbers, unknowns int) ([]string, string, api.Errno) {
	coeffs := make([]string, unknowns)
	for i := range coeffs {
		text, err := r.coeffs[i].Text()
		if err != api.OK {
			return nil, "", err
		}
		coeffs[i] = text
	}
	constant, err := r.constant.Text()
	if err != api.OK {
		return nil, "", err
	}
	return coeffs, constant, api.OK
}

// place is where rows are found: the unknowns, and what is known of all else.
type place struct {
	columns
	vars   map[string]api.Var
	now    api.Env // without its Binds
	values map[api.Use]string
}

func placeOf(s api.System, among columns, env api.Env) place {
	values := make(map[api.Use]string)
	for _, b := range env.Binds {
		values[b.Use] = b.Value
	}
	return place{among, variables(s), api.Env{Time: env.Time, Initial: env.Initial}, values}
}

// value evaluates an expression without unknowns. Package system is given no more than the expression needs, since it
// checks all that it is given each time.
func (p place) value(e api.Expr) (string, api.Errno) {
	var s api.System
	env := p.now
	uses, _ := system.Of(e)
	for _, u := range uses {
		if last := len(s.Vars) - 1; last < 0 || s.Vars[last].Name != u.Name {
			s.Vars = append(s.Vars, p.vars[u.Name])
		}
		if v, ok := p.values[u]; ok {
			env.Binds = append(env.Binds, api.Bind{Use: u, Value: v})
		}
	}
	return system.Eval(s, e, env)
}

// rowsOf returns the rows of equations: what the unknowns are multiplied by on the Left side more than on the Right
// one, and the constant of the Right side less that of the Left one.
func (p place) rowsOf(list []api.Eq) ([]numbers, api.Errno) {
	found := make([]numbers, len(list))
	for i, q := range list {
		if !p.linear(q.Left) || !p.linear(q.Right) {
			return nil, api.ErrLinear
		}
		left, err := p.rowOf(q.Left)
		if err != api.OK {
			return nil, err
		}
		right, err := p.rowOf(q.Right)
		if err != api.OK {
			return nil, err
		}
		found[i] = sum(left.times(number("1")), right.times(number("-1")))
		found[i].constant = found[i].constant.Negated()
	}
	return found, api.OK
}

// rowOf returns the row of a linear expression.
func (p place) rowOf(e api.Expr) (numbers, api.Errno) {
	if at, is := p.column(e); is {
		return numbers{coeffs: map[int]exact.Number{at: number("1")}}, api.OK
	}
	switch e.Op {
	case api.Neg, api.Add, api.Sub, api.Mul, api.Div:
		return p.calculated(e)
	case api.If:
		first, err := p.value(e.Kids[0])
		if err != api.OK {
			return numbers{}, err
		}
		if first == api.True {
			return p.rowOf(e.Kids[1])
		}
		return p.rowOf(e.Kids[2])
	}
	text, err := p.value(e)
	if err != api.OK {
		return numbers{}, err
	}
	return numbers{constant: number(text)}, api.OK
}

// calculated returns the row of a linear expression from the rows of its kids.
func (p place) calculated(e api.Expr) (numbers, api.Errno) {
	kids := make([]numbers, len(e.Kids))
	for i, kid := range e.Kids {
		r, err := p.rowOf(kid)
		if err != api.OK {
			return numbers{}, err
		}
		kids[i] = r
	}
	first, last := kids[0], kids[len(kids)-1]
	one, less := number("1"), number("-1")
	switch e.Op {
	case api.Neg:
		return sum(first.times(less)), api.OK
	case api.Add:
		return sum(first.times(one), last.times(one)), api.OK
	case api.Sub:
		return sum(first.times(one), last.times(less)), api.OK
	case api.Mul:
		if p.none(e.Kids[0]) {
			first, last = last, first
		}
		return sum(first.times(last.constant)), api.OK
	}
	inverse, ok := one.Over(last.constant)
	if !ok {
		return numbers{}, api.ErrZero
	}
	return sum(first.times(inverse)), api.OK
}

package measure

import "linkwork/api"

// powers are a unit as a product of powers of the units that columns stand for: an exponent for each column. Nothing
// (nil) is whatever unit is asked for. It is that of a zero, and of a product with one: the zero is in no other place,
// so that its own unit can be what makes up for all else. And it stands for a truth, of which no unit is demanded.
type powers []int

// columns are what units are products of powers of: first the units of variables that are to be found, then those
// that are given, and the second.
type columns struct {
	of    map[string]int // the columns of Number variables by their names
	free  int            // how many columns are to be found
	given []exponents    // the units of the other ones
}

// columnsOf returns the columns of a valid system.
func columnsOf(s api.System) columns {
	c := columns{of: make(map[string]int)}
	for _, v := range s.Vars {
		if v.Type == api.Number && v.Unit == "" {
			c.of[v.Name] = len(c.of)
		}
	}
	c.free = len(c.of)
	for _, v := range s.Vars {
		if v.Unit != "" {
			c.of[v.Name] = len(c.of)
			unit, _ := read(v.Unit)
			c.given = append(c.given, unit)
		}
	}
	c.given = append(c.given, exponents{second: number("1")})
	return c
}

// seconds returns a power of the second; the last column is the second's.
func (c columns) seconds(power int) powers {
	p := make(powers, len(c.of)+1)
	p[len(c.of)] = power
	return p
}

// variable returns the unit of a derivative of a variable.
func (c columns) variable(name string, order int) powers {
	at, ok := c.of[name]
	if !ok {
		return nil
	}
	p := c.seconds(-order)
	p[at] = 1
	return p
}

// times returns the product of two units, the second one to a power.
func (p powers) times(q powers, power int) powers {
	if p == nil || q == nil {
		return nil
	}
	product := make(powers, len(p))
	for i := range p {
		product[i] = p[i] + q[i]*power
	}
	return product
}

// demander is told all that must be without a unit.
type demander func(p powers)

// same demands that two units are the same, and returns it.
func (demand demander) same(p, q powers) powers {
	if p == nil {
		return q
	}
	if q != nil {
		demand(p.times(q, -1))
	}
	return p
}

// unit returns the unit of an expression, and demands what must be the same in it.
func (c columns) unit(e api.Expr, demand demander) powers {
	kids := make([]powers, len(e.Kids))
	for i, kid := range e.Kids {
		kids[i] = c.unit(kid, demand)
	}
	switch e.Op {
	case api.Num:
		if e.Text == "0" {
			return nil
		}
		return c.seconds(0)
	case api.Time:
		return c.seconds(1)
	case api.Ref, api.Pre:
		return c.variable(e.Text, e.Order)
	case api.Neg:
		return kids[0]
	case api.Add, api.Sub:
		return demand.same(kids[0], kids[1])
	case api.Mul:
		return kids[0].times(kids[1], 1)
	case api.Div:
		return kids[0].times(kids[1], -1)
	case api.If:
		return demand.same(kids[1], kids[2])
	case api.Less, api.AtMost, api.More, api.AtLeast, api.Equal, api.Unequal:
		demand.same(kids[0], kids[1])
	}
	return nil
}

// claim is what an equation, an initial one or a When demands.
type claim struct {
	name    string
	demands func(demand demander)
}

// claims returns those of a system in order.
func (c columns) claims(s api.System) []claim {
	var list []claim
	gather := func(kind string, eqs []api.Eq) {
		for _, q := range eqs {
			list = append(list, claim{kind + " " + q.Name, func(demand demander) {
				left := c.unit(q.Left, demand)
				demand.same(left, c.unit(q.Right, demand))
			}})
		}
	}
	gather("eq", s.Eqs)
	gather("init", s.Inits)
	for _, w := range s.Whens {
		list = append(list, claim{"when " + w.Name, func(demand demander) {
			c.unit(w.Cond, demand)
			for _, a := range w.Acts {
				demand.same(c.variable(a.Var, 0), c.unit(a.Value, demand))
			}
		}})
	}
	return list
}

package measure_test

import (
	"maps"
	"slices"
	"strconv"
	"strings"

	"linkwork/api"
	"linkwork/measure"
	"linkwork/rat"
)

// The units of a system by the words of the chapter, as another way to them: each Number variable and each 0 has an
// unknown unit, and all that is demanded are sums of unknowns and symbols that are 0.

// sum is a unit: the exponents of unknowns, which begin with `?`, and of symbols.
type sum map[string]string

func (a sum) plus(b sum, factor string) sum {
	c := maps.Clone(a)
	for key, exponent := range b {
		exponent, _ = rat.Mul(exponent, factor)
		if _, ok := c[key]; !ok {
			c[key] = "0"
		}
		c[key], _ = rat.Add(c[key], exponent)
		if c[key] == "0" {
			delete(c, key)
		}
	}
	return c
}

// unknown returns the first unknown of a sum; none if it has none.
func (a sum) unknown() string {
	for _, key := range slices.Sorted(maps.Keys(a)) {
		if key[0] == '?' {
			return key
		}
	}
	return ""
}

// sumOf reads a unit.
func sumOf(unit string) sum {
	a := make(sum)
	if unit == "1" {
		return a
	}
	for _, factor := range strings.Split(unit, ".") {
		symbol := strings.TrimRight(factor, "()/-0123456789")
		exponent := strings.Trim(factor[len(symbol):], "()")
		if exponent == "" {
			exponent = "1"
		}
		a[symbol] = exponent
	}
	return a
}

// unit writes a sum without unknowns.
func (a sum) unit() string {
	var factors []string
	for _, symbol := range slices.Sorted(maps.Keys(a)) {
		exponent := a[symbol]
		switch {
		case exponent == "1":
			exponent = ""
		case strings.Contains(exponent, "/"):
			exponent = "(" + exponent + ")"
		}
		factors = append(factors, symbol+exponent)
	}
	if factors == nil {
		return "1"
	}
	return strings.Join(factors, ".")
}

// book is what was demanded, one sum after the other, each without the unknowns that those before it are solved for.
type book struct {
	solved []sum
	of     []string // the unknown that each one is solved for
	zeros  int
	bad    bool // whether a demand contradicts those before it
}

// reduced returns a sum without the unknowns that were solved for.
func (b *book) reduced(a sum) sum {
	for i, key := range b.of {
		if factor, ok := a[key]; ok {
			factor, _ = rat.Div(factor, b.solved[i][key])
			factor, _ = rat.Sub("0", factor)
			a = a.plus(b.solved[i], factor)
		}
	}
	return a
}

func (b *book) demand(a sum) {
	a = b.reduced(a)
	key := a.unknown()
	if key != "" {
		b.solved, b.of = append(b.solved, a), append(b.of, key)
	} else if len(a) > 0 {
		b.bad = true
	}
}

// unit returns the unit of an expression, and demands what must be the same in it. That of a truth is none.
func (b *book) unit(s api.System, e api.Expr) (sum, bool) {
	var kids []sum
	number := true
	for _, kid := range e.Kids {
		u, isNumber := b.unit(s, kid)
		kids, number = append(kids, u), isNumber
	}
	switch e.Op {
	case api.Num:
		if e.Text == "0" {
			b.zeros++
			return sum{"?0" + strconv.Itoa(b.zeros): "1"}, true
		}
		return sum{}, true
	case api.Time:
		return sum{"s": "1"}, true
	case api.Ref, api.Pre:
		i := slices.IndexFunc(s.Vars, func(v api.Var) bool { return v.Name == e.Text })
		return sum{"?" + e.Text: "1"}.plus(sum{"s": "-1"}, strconv.Itoa(e.Order)), s.Vars[i].Type == api.Number
	case api.Neg:
		return kids[0], true
	case api.Mul:
		return kids[0].plus(kids[1], "1"), true
	case api.Div:
		return kids[0].plus(kids[1], "-1"), true
	case api.Add, api.Sub:
		b.demand(kids[0].plus(kids[1], "-1"))
		return kids[0], true
	case api.If:
		if number {
			b.demand(kids[1].plus(kids[2], "-1"))
		}
		return kids[1], number
	case api.Less, api.AtMost, api.More, api.AtLeast, api.Equal, api.Unequal:
		if number {
			b.demand(kids[0].plus(kids[1], "-1"))
		}
	}
	return sum{}, false
}

func (b *book) same(s api.System, left, right api.Expr) {
	u, _ := b.unit(s, left)
	v, number := b.unit(s, right)
	if number {
		b.demand(u.plus(v, "-1"))
	}
}

// bookOf returns what a system demands, and the first claim that contradicts those before it.
func bookOf(s api.System) (*book, string) {
	b := &book{}
	for _, v := range s.Vars {
		if v.Unit != "" {
			b.demand(sum{"?" + v.Name: "1"}.plus(sumOf(v.Unit), "-1"))
		}
	}
	for _, q := range s.Eqs {
		if b.same(s, q.Left, q.Right); b.bad {
			return b, "eq " + q.Name
		}
	}
	for _, q := range s.Inits {
		if b.same(s, q.Left, q.Right); b.bad {
			return b, "init " + q.Name
		}
	}
	for _, w := range s.Whens {
		b.unit(s, w.Cond)
		for _, a := range w.Acts {
			b.same(s, ref(a.Var, 0), a.Value)
		}
		if b.bad {
			return b, "when " + w.Name
		}
	}
	return b, ""
}

// written returns the text of a sum as a unit; none if it has unknowns; ErrSize if it is no unit.
func (b *book) written(a sum) (string, api.Errno) {
	a = b.reduced(a)
	if a.unknown() != "" {
		return "", api.OK
	}
	if !measure.Is(a.unit()) {
		return "", api.ErrSize
	}
	return a.unit(), api.OK
}

// inferBook returns what Infer must return.
func inferBook(s api.System) ([]string, string, api.Errno) {
	b, name := bookOf(s)
	if name != "" {
		return nil, name, api.ErrUnit
	}
	units := make([]string, len(s.Vars))
	for i, v := range s.Vars {
		if v.Type == api.Truth {
			continue
		}
		unit, err := b.written(sum{"?" + v.Name: "1"})
		if err != api.OK {
			return nil, "", err
		}
		units[i] = unit
	}
	return units, "", api.OK
}

// ofBook returns what Of must return for a number.
func ofBook(s api.System, e api.Expr) (string, api.Errno) {
	b, name := bookOf(s)
	unit, _ := b.unit(s, e)
	if name != "" || b.bad {
		return "", api.ErrUnit
	}
	return b.written(unit)
}

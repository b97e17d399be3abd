package system_test

import (
	"strconv"
	"strings"
	"testing"

	"linkwork/api"
	"linkwork/system"
)

var (
	nines = strings.Repeat("9", api.MaxDigits) // the greatest integer that is a number
	tall  = "1" + strings.Repeat("0", 200)     // its square is no number
)

func op(name string, kids ...api.Expr) api.Expr {
	return api.Expr{Op: name, Kids: kids}
}

func num(text string) api.Expr {
	return api.Expr{Op: api.Num, Text: text}
}

func ref(name string) api.Expr {
	return api.Expr{Op: api.Ref, Text: name}
}

func der(name string, order int) api.Expr {
	return api.Expr{Op: api.Ref, Text: name, Order: order}
}

func pre(name string) api.Expr {
	return api.Expr{Op: api.Pre, Text: name}
}

func truth(b bool) api.Expr {
	return op(strconv.FormatBool(b))
}

func neg(a api.Expr) api.Expr {
	return op(api.Neg, a)
}

func add(a, b api.Expr) api.Expr {
	return op(api.Add, a, b)
}

func sub(a, b api.Expr) api.Expr {
	return op(api.Sub, a, b)
}

func mul(a, b api.Expr) api.Expr {
	return op(api.Mul, a, b)
}

func div(a, b api.Expr) api.Expr {
	return op(api.Div, a, b)
}

func choice(cond, then, otherwise api.Expr) api.Expr {
	return op(api.If, cond, then, otherwise)
}

// plant is a system with everything that a system can have: x and y are Continuous, u is an Input,
// n a discrete number, on a discrete truth, k a number and lock a truth that are given.
func plant() api.System {
	return api.System{
		Vars: []api.Var{
			{Name: "k", Kind: api.Param, Value: "-3/2", Unit: "N.m-1"},
			{Name: "lock", Kind: api.Param, Type: api.Truth, Value: "false"},
			{Name: "n", Kind: api.Discrete, Start: "0", Fixed: true, Unit: "1"},
			{Name: "on", Kind: api.Discrete, Type: api.Truth, Start: "true"},
			{Name: "u", Kind: api.Input, Unit: "V(1/2)"},
			{Name: "x", Start: "1", Fixed: true, Unit: "m"},
			{Name: "y"},
		},
		Eqs: []api.Eq{
			{Name: "e1", Left: der("x", 2), Right: neg(mul(ref("k"), ref("x")))},
			{Name: "e2", Left: ref("y"), Right: choice(op(api.Or, pre("on"), ref("lock")), div(der("u", 1), num("2")), op(api.Time))},
		},
		Inits: []api.Eq{{Name: "i", Left: der("x", 1), Right: num("0")}},
		Whens: []api.When{
			{Name: "w1", Cond: op(api.Less, ref("x"), num("0")), Acts: []api.Act{
				{Kind: api.Assign, Var: "on", Value: op(api.Not, pre("on"))},
				{Kind: api.Reinit, Var: "x", Value: neg(pre("x"))},
			}},
			{Name: "w2", Cond: op(api.Sample, num("0"), num("1/2")), Acts: []api.Act{
				{Kind: api.Assign, Var: "n", Value: add(pre("n"), num("1"))},
				{Kind: api.Reinit, Var: "x", Value: num("1")},
			}},
		},
	}
}

// instant is an environment for the plant, with values for all of its uses, and one for a name that is no variable.
func instant() api.Env {
	return api.Env{Time: "3/2", Binds: []api.Bind{
		bind("a.b", 0, false, "7"),
		bind("k", 0, false, "-3/2"),
		bind("lock", 0, false, "false"),
		bind("n", 0, false, "4"), bind("n", 0, true, "3"),
		bind("on", 0, false, "true"), bind("on", 0, true, "false"),
		bind("u", 0, false, "1/3"), bind("u", 1, false, "5"),
		bind("x", 0, false, "2"), bind("x", 1, false, "-1"), bind("x", 2, false, "3"), bind("x", 0, true, "9"),
		bind("y", 0, false, "3/2"),
	}}
}

func bind(name string, order int, before bool, value string) api.Bind {
	return api.Bind{Use: api.Use{Name: name, Order: order, Pre: before}, Value: value}
}

// numbered returns names that rise.
func numbered(prefix string, count int) []string {
	var list []string
	for i := range count {
		list = append(list, prefix+strconv.Itoa(1000+i))
	}
	return list
}

// deep returns an expression of a depth, deep-many negations of a number.
func deep(depth int) api.Expr {
	if depth == 1 {
		return num("1")
	}
	return neg(deep(depth - 1))
}

// wide returns a sum, as flat as possible, of a size (1, or more than 2).
func wide(size int) api.Expr {
	switch size {
	case 1:
		return num("1")
	case 2:
		return neg(num("1"))
	}
	left := size / 2
	return add(wide(left), wide(size-1-left))
}

// endless is an expression that has itself as its kid.
func endless() api.Expr {
	kids := make([]api.Expr, 2)
	e := api.Expr{Op: api.Add, Kids: kids}
	kids[0], kids[1] = e, e
	return e
}

// text returns the text of a system, which must have one.
func text(t *testing.T, s api.System) string {
	t.Helper()
	text, e := system.Text(s)
	if e != api.OK {
		t.Fatalf("Text: %d", e)
	}
	return text
}

// read returns the system that has a text.
func read(t *testing.T, lines ...string) api.System {
	t.Helper()
	s, e := system.Read(strings.Join(append(lines, ""), "\n"))
	if e != api.OK {
		t.Fatalf("Read(%q): %d", lines, e)
	}
	return s
}

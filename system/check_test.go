package system_test

import (
	"strings"
	"testing"

	"linkwork/api"
	"linkwork/system"
)

// change is a change of the plant, or of an environment.
type change[T any] struct {
	name string
	do   func(s *T)
}

func checkChanges(t *testing.T, want api.Errno, list []change[api.System]) {
	t.Helper()
	for _, c := range list {
		s := plant()
		c.do(&s)
		if e := system.Check(s); e != want {
			t.Errorf("%s: Check = %d, want %d", c.name, e, want)
		}
	}
}

func TestCheckValid(t *testing.T) {
	if e := system.Check(api.System{}); e != api.OK {
		t.Errorf("Check of nothing = %d", e)
	}
	if e := system.Check(api.System{Vars: []api.Var{}, Eqs: []api.Eq{}, Inits: []api.Eq{}, Whens: []api.When{}}); e != api.OK {
		t.Errorf("Check of empty lists = %d", e)
	}
	checkChanges(t, api.OK, []change[api.System]{
		{"the plant", func(s *api.System) {}},
		{"kids that are empty", func(s *api.System) { s.Eqs[0].Right = api.Expr{Op: api.Num, Text: "0", Kids: []api.Expr{}} }},
		{"a name with all bytes", func(s *api.System) { s.Vars[6].Name, s.Eqs[1].Left = "zZaA09_.[],'", num("0") }},
		{"a name of 80 bytes", func(s *api.System) { s.Vars[6].Name, s.Eqs[1].Left = strings.Repeat("z", 80), num("0") }},
		{"the greatest order", func(s *api.System) { s.Eqs[0].Left = der("u", 6) }},
		{"an equation and an initial one with one name", func(s *api.System) { s.Inits[0].Name = "e1" }},
		{"an equation with the name of a variable", func(s *api.System) { s.Eqs[1].Name = "x" }},
		{"a when with the name of an equation", func(s *api.System) { s.Whens[0].Name = "e1" }},
		{"a start that is not fixed", func(s *api.System) { s.Vars[5].Fixed = false }},
		{"a start of 300 digits", func(s *api.System) { s.Vars[5].Start = "-1/" + nines }},
		{"pre of a parameter", func(s *api.System) { s.Eqs[0].Right = pre("k") }},
		{"pre of an input", func(s *api.System) { s.Eqs[0].Right = pre("u") }},
		{"a when that only reinits", func(s *api.System) { s.Whens[1].Acts = s.Whens[1].Acts[1:] }},
		{"a truth that is compared", func(s *api.System) { s.Whens[0].Cond = op(api.Equal, ref("on"), pre("on")) }},
		{"an if of truths", func(s *api.System) { s.Whens[0].Cond = choice(ref("on"), ref("lock"), op(api.Initial)) }},
	})
}

func TestCheckVars(t *testing.T) {
	const k, lock, n, on, u, x, y = 0, 1, 2, 3, 4, 5, 6
	checkChanges(t, api.ErrForm, []change[api.System]{
		{"vars that do not rise", func(s *api.System) { s.Vars[x], s.Vars[y] = s.Vars[y], s.Vars[x] }},
		{"a var that is there twice", func(s *api.System) { s.Vars = append(s.Vars, s.Vars[y]) }},
		{"no name", func(s *api.System) { s.Vars[0].Name, s.Eqs[0].Right = "", num("0") }},
		{"a name of 81 bytes", func(s *api.System) { s.Vars[y].Name, s.Eqs[1].Left = strings.Repeat("z", 81), num("0") }},
		{"a name that begins with a digit", func(s *api.System) { s.Vars[k].Name, s.Eqs[0].Right = "1k", num("0") }},
		{"a name that begins with _", func(s *api.System) { s.Vars[k].Name, s.Eqs[0].Right = "_k", num("0") }},
		{"a name with a blank", func(s *api.System) { s.Vars[k].Name, s.Eqs[0].Right = "k k", num("0") }},
		{"a name with a colon", func(s *api.System) { s.Vars[k].Name, s.Eqs[0].Right = "k:", num("0") }},
		{"a name with a letter of two bytes", func(s *api.System) { s.Vars[k].Name, s.Eqs[0].Right = "kä", num("0") }},
		{"the kind -1", func(s *api.System) { s.Vars[y].Kind = -1 }},
		{"the kind 4", func(s *api.System) { s.Vars[y].Kind = 4 }},
		{"the type -1", func(s *api.System) { s.Vars[n].Type = -1 }},
		{"the type 2", func(s *api.System) { s.Vars[n].Type = 2 }},
		{"another discrete variable of the type 2", func(s *api.System) { s.Vars = append(s.Vars, api.Var{Name: "z", Kind: api.Discrete, Type: 2}) }},
		{"another parameter of the type -1", func(s *api.System) {
			s.Vars = append(s.Vars, api.Var{Name: "z", Kind: api.Param, Type: -1, Value: "1"})
		}},
		{"another input of the kind 4", func(s *api.System) { s.Vars = append(s.Vars, api.Var{Name: "z", Kind: 4}) }},
		{"a continuous truth", func(s *api.System) { s.Vars[y].Type, s.Eqs[1].Left = api.Truth, num("0") }},
		{"an input that is a truth", func(s *api.System) {
			s.Vars[u], s.Eqs[1].Right = api.Var{Name: "u", Kind: api.Input, Type: api.Truth}, num("0")
		}},
		{"a parameter without a value", func(s *api.System) { s.Vars[k].Value = "" }},
		{"a parameter with a malformed value", func(s *api.System) { s.Vars[k].Value = "2/4" }},
		{"a parameter with a value of 301 digits", func(s *api.System) { s.Vars[k].Value = nines + "9" }},
		{"a number with the value true", func(s *api.System) { s.Vars[k].Value = "true" }},
		{"a truth with the value 1", func(s *api.System) { s.Vars[lock].Value = "1" }},
		{"a truth with the value True", func(s *api.System) { s.Vars[lock].Value = "True" }},
		{"a continuous variable with a value", func(s *api.System) { s.Vars[x].Value = "1" }},
		{"a discrete variable with a value", func(s *api.System) { s.Vars[n].Value = "1" }},
		{"an input with a value", func(s *api.System) { s.Vars[u].Value = "1" }},
		{"a parameter with a start", func(s *api.System) { s.Vars[k].Start = "1" }},
		{"an input with a start", func(s *api.System) { s.Vars[u].Start = "1" }},
		{"a start that is no number", func(s *api.System) { s.Vars[x].Start = "-0" }},
		{"a number with the start true", func(s *api.System) { s.Vars[n].Start = "true" }},
		{"a truth with the start 0", func(s *api.System) { s.Vars[on].Start = "0" }},
		{"fixed without a start", func(s *api.System) { s.Vars[y].Fixed = true }},
		{"a fixed parameter", func(s *api.System) { s.Vars[k].Fixed = true }},
		{"a truth with a unit", func(s *api.System) { s.Vars[on].Unit = "m" }},
		{"a truth with the unit 1", func(s *api.System) { s.Vars[lock].Unit = "1" }},
		{"no unit", func(s *api.System) { s.Vars[x].Unit = "m." }},
	})
}

func TestCheckUnits(t *testing.T) {
	check := func(want api.Errno, units ...string) {
		for _, unit := range units {
			s := api.System{Vars: []api.Var{{Name: "x", Unit: unit}}}
			if e := system.Check(s); e != want {
				t.Errorf("the unit %q: Check = %d, want %d", unit, e, want)
			}
		}
	}
	long := "a(-999999998/999999999).b(-999999998/999999999).c(-999999998/999999999).d-999999"
	if len(long) != api.MaxName {
		t.Fatalf("the long unit has %d bytes", len(long))
	}
	check(api.OK, "", "1", "m", "kg.m2.s-2", "V(1/2)", "V(-1/2)", "m-1", "m2", "s-999999999", "m999999999", "abcdefgh",
		"A.B", "B.a", "m(999999998/999999999)", "aB.ab", "a.aa", long)
	check(api.ErrForm, "0", "2", "-1", "1.m", "m.1", "m.", ".m", "m..s", ".", "s.m", "m.m", "m.m2", "b.B", "aa.a", "m1", "m0", "m-0", "m01", "m+2", "m--2", "m-",
		"m(2)", "m(1)", "m()", "m(1/2", "m1/2", "m1/2)", "m(2/4)", "m((1/2))", "m( 1/2)", "m(1/2)s", "m2s", "m 2", "m s", "abcdefghi", "é", "m_s", "m/s", "m^2",
		"m1000000000", "m-1000000000", "m(1/1000000000)", "m(1000000000/3)", long+"9", strings.Repeat("m", 1000))
}

func TestCheckExprs(t *testing.T) {
	number := func(e api.Expr) change[api.System] {
		return change[api.System]{"a side " + e.Op + " " + e.Text, func(s *api.System) { s.Eqs[0].Right = e }}
	}
	truthful := func(e api.Expr) change[api.System] {
		return change[api.System]{"a condition " + e.Op + " " + e.Text, func(s *api.System) { s.Whens[0].Cond = e }}
	}
	one, yes := num("1"), truth(true)
	checkChanges(t, api.ErrForm, []change[api.System]{
		number(api.Expr{}), number(op("plus", one, one)), number(op("Add", one, one)), number(op("const")),
		number(num("")), number(num("x")), number(num("01")), number(num(nines + "9")), number(num("true")),
		number(api.Expr{Op: api.Num, Text: "1", Order: 1}), number(api.Expr{Op: api.Num, Text: "1", Kids: []api.Expr{one}}),
		number(ref("")), number(ref("z")), number(ref("1x")), number(der("x", -1)), number(der("x", 7)), number(pre("z")), number(pre("")),
		number(der("k", 1)), number(der("n", 1)), number(der("on", 1)), number(api.Expr{Op: api.Pre, Text: "x", Order: 1}),
		number(api.Expr{Op: api.Ref, Text: "x", Kids: []api.Expr{one}}), number(api.Expr{Op: api.Pre, Text: "x", Kids: []api.Expr{one}}),
		number(api.Expr{Op: api.Time, Text: "t"}), number(api.Expr{Op: api.Time, Order: 1}), number(op(api.Time, one)),
		number(api.Expr{Op: api.Add, Text: "+", Kids: []api.Expr{one, one}}), number(api.Expr{Op: api.Add, Order: 1, Kids: []api.Expr{one, one}}),
		number(op(api.Neg)), number(op(api.Neg, one, one)), number(op(api.Neg, yes)), number(op(api.Add, one)), number(op(api.Add, one, one, one)),
		number(op(api.Add, one, yes)), number(op(api.Add, yes, one)), number(op(api.Sub, one, yes)), number(op(api.Mul, yes, one)), number(op(api.Div, one, ref("on"))),
		number(neg(num("x"))), number(add(one, neg(ref("z")))), number(op(api.If, yes, one)), number(choice(one, one, one)), number(choice(yes, one, yes)), number(choice(yes, yes, one)),
		number(choice(yes, yes, yes)), number(ref("on")), number(pre("lock")), number(yes), number(op(api.Initial)), number(op(api.Less, one, one)),
		truthful(one), truthful(ref("x")), truthful(op(api.Time)), truthful(add(one, one)), truthful(choice(yes, one, one)),
		truthful(api.Expr{Op: api.True, Text: "true"}), truthful(op(api.False, yes)), truthful(api.Expr{Op: api.Initial, Order: 1}),
		truthful(op(api.Less, one, yes)), truthful(op(api.AtMost, yes, one)), truthful(op(api.More, yes, yes)), truthful(op(api.AtLeast, one)),
		truthful(op(api.Equal, one, yes)), truthful(op(api.Unequal, yes, one)), truthful(op(api.Equal, one)), truthful(op(api.Unequal, one, one, one)),
		truthful(op(api.And, yes, one)), truthful(op(api.Or, one, yes)), truthful(op(api.And, yes)), truthful(op(api.Or, yes, yes, yes)), truthful(op(api.Not, one)), truthful(op(api.Not, yes, yes)),
		truthful(op(api.Sample, one, num("0"))), truthful(op(api.Sample, one, num("-1"))), truthful(op(api.Sample, one)), truthful(op(api.Sample, one, ref("k"))),
		truthful(op(api.Sample, ref("k"), one)), truthful(op(api.Sample, neg(one), one)), truthful(op(api.Sample, one, op(api.Time))), truthful(op(api.Sample, one, num("2/2"))),
		{"a left side that is a truth", func(s *api.System) { s.Eqs[0].Left, s.Eqs[0].Right = yes, yes }},
		{"an initial equation of truths", func(s *api.System) { s.Inits[0].Left, s.Inits[0].Right = yes, yes }},
		{"an initial equation with an unknown name", func(s *api.System) { s.Inits[0].Left = ref("z") }},
	})
}

func TestCheckParts(t *testing.T) {
	checkChanges(t, api.ErrForm, []change[api.System]{
		{"eqs that do not rise", func(s *api.System) { s.Eqs[0].Name = "e3" }},
		{"eqs with one name", func(s *api.System) { s.Eqs[0].Name = "e2" }},
		{"an eq without a name", func(s *api.System) { s.Eqs[0].Name = "" }},
		{"an eq with a malformed name", func(s *api.System) { s.Eqs[0].Name = "E 1" }},
		{"an eq with a name of 81 bytes", func(s *api.System) { s.Eqs[1].Name = strings.Repeat("e", 81) }},
		{"inits that do not rise", func(s *api.System) { s.Inits = append(s.Inits, api.Eq{Name: "a", Left: num("0"), Right: num("0")}) }},
		{"an init with a malformed name", func(s *api.System) { s.Inits[0].Name = "'i" }},
		{"whens that do not rise", func(s *api.System) { s.Whens[0].Name = "w3" }},
		{"whens with one name", func(s *api.System) { s.Whens[1].Name = "w1" }},
		{"a when with a malformed name", func(s *api.System) { s.Whens[0].Name = "w-" }},
		{"a when without acts", func(s *api.System) { s.Whens[0].Acts = nil }},
		{"a variable that is assigned twice by a when", func(s *api.System) { s.Whens[0].Acts = append(s.Whens[0].Acts, s.Whens[0].Acts[0]) }},
		{"a variable that is assigned by two whens", func(s *api.System) { s.Whens[1].Acts = append(s.Whens[1].Acts, s.Whens[0].Acts[0]) }},
		{"a variable that is reinited twice by a when", func(s *api.System) { s.Whens[0].Acts = append(s.Whens[0].Acts, s.Whens[0].Acts[1]) }},
		{"an act of the kind -1", func(s *api.System) { s.Whens[0].Acts[0].Kind = -1 }},
		{"an act of the kind 2", func(s *api.System) { s.Whens[0].Acts[0].Kind = 2 }},
		{"an act of an unknown variable", func(s *api.System) { s.Whens[0].Acts[0].Var = "z" }},
		{"an assigned continuous variable", func(s *api.System) { s.Whens[0].Acts[1].Kind = api.Assign }},
		{"a reinited discrete variable", func(s *api.System) { s.Whens[0].Acts[0].Kind = api.Reinit }},
		{"an assigned parameter", func(s *api.System) { s.Whens[0].Acts[0] = api.Act{Kind: api.Assign, Var: "lock", Value: truth(true)} }},
		{"a reinited input", func(s *api.System) { s.Whens[0].Acts[1].Var = "u" }},
		{"a truth that is assigned a number", func(s *api.System) { s.Whens[0].Acts[0].Value = num("1") }},
		{"a number that is assigned a truth", func(s *api.System) { s.Whens[1].Acts[0].Value = truth(true) }},
		{"a number that is reinited by a truth", func(s *api.System) { s.Whens[0].Acts[1].Value = ref("on") }},
		{"an act with a malformed value", func(s *api.System) { s.Whens[0].Acts[1].Value = num("1/1") }},
	})
}

func TestCheckLimits(t *testing.T) {
	vars := func(count int) func(s *api.System) {
		return func(s *api.System) {
			for _, name := range numbered("z", count-len(s.Vars)) {
				s.Vars = append(s.Vars, api.Var{Name: name})
			}
		}
	}
	eqs := func(list func(s *api.System) *[]api.Eq, count int) func(s *api.System) {
		return func(s *api.System) {
			for _, name := range numbered("z", count-len(*list(s))) {
				*list(s) = append(*list(s), api.Eq{Name: name, Left: num("0"), Right: num("0")})
			}
		}
	}
	whens := func(count int) func(s *api.System) {
		return func(s *api.System) {
			for _, name := range numbered("z", count-len(s.Whens)) {
				s.Whens = append(s.Whens, api.When{Name: name, Cond: truth(true), Acts: []api.Act{{Kind: api.Reinit, Var: "x", Value: num("0")}}})
			}
		}
	}
	acts := func(count int) func(s *api.System) {
		return func(s *api.System) {
			vars(100)(s)
			for _, name := range numbered("z", count-len(s.Whens[1].Acts)) {
				s.Whens[1].Acts = append(s.Whens[1].Acts, api.Act{Kind: api.Reinit, Var: name, Value: num("0")})
			}
		}
	}
	side := func(e api.Expr) func(s *api.System) {
		return func(s *api.System) { s.Eqs[1].Right = e }
	}
	ofEqs := func(s *api.System) *[]api.Eq { return &s.Eqs }
	ofInits := func(s *api.System) *[]api.Eq { return &s.Inits }
	checkChanges(t, api.OK, []change[api.System]{
		{"120 vars", vars(120)}, {"120 eqs", eqs(ofEqs, 120)}, {"120 inits", eqs(ofInits, 120)}, {"120 whens", whens(120)}, {"20 acts", acts(20)},
		{"a depth of 24", side(deep(24))}, {"a size of 200", side(wide(200))},
	})
	checkChanges(t, api.ErrSize, []change[api.System]{
		{"121 vars", vars(121)}, {"121 eqs", eqs(ofEqs, 121)}, {"121 inits", eqs(ofInits, 121)}, {"121 whens", whens(121)}, {"21 acts", acts(21)},
		{"a depth of 25", side(deep(25))}, {"a size of 201", side(wide(201))},
	})
}

// full returns a system with just as many expressions as a system may have, in all places where it has some.
func full() api.System {
	s := api.System{
		Vars:  []api.Var{{Name: "n", Kind: api.Discrete}, {Name: "x"}},
		Inits: []api.Eq{{Name: "i", Left: wide(49), Right: wide(51)}},
		Whens: []api.When{{Name: "w", Cond: op(api.Less, wide(20), wide(29)), Acts: []api.Act{
			{Kind: api.Assign, Var: "n", Value: wide(24)}, {Kind: api.Reinit, Var: "x", Value: wide(26)},
		}}},
	}
	for _, name := range numbered("e", 19) {
		s.Eqs = append(s.Eqs, api.Eq{Name: name, Left: wide(101), Right: wide(99)})
	}
	return s
}

func TestCheckNodes(t *testing.T) {
	if e := system.Check(full()); e != api.OK {
		t.Errorf("Check of %d expressions = %d", api.MaxNodes, e)
	}
	for _, c := range []change[api.System]{
		{"the left side of an equation", func(s *api.System) { s.Eqs[3].Left = wide(102) }},
		{"the right side of an equation", func(s *api.System) { s.Eqs[18].Right = wide(100) }},
		{"the left side of an initial one", func(s *api.System) { s.Inits[0].Left = wide(50) }},
		{"the right side of an initial one", func(s *api.System) { s.Inits[0].Right = wide(52) }},
		{"a condition", func(s *api.System) { s.Whens[0].Cond = op(api.Not, s.Whens[0].Cond) }},
		{"an assigned value", func(s *api.System) { s.Whens[0].Acts[0].Value = wide(25) }},
		{"a value of a reinit", func(s *api.System) { s.Whens[0].Acts[1].Value = wide(27) }},
	} {
		s := full()
		c.do(&s)
		if e := system.Check(s); e != api.ErrSize {
			t.Errorf("one more expression in %s: Check = %d", c.name, e)
		}
	}
}

// What is too large is ErrSize, whatever else is wrong, wherever it is.
func TestCheckSizeFirst(t *testing.T) {
	spoiled := func(spoil func(s *api.System)) change[api.System] {
		return change[api.System]{"a spoiled system", func(s *api.System) {
			s.Vars[0].Name, s.Vars[1].Kind, s.Eqs[0].Left, s.Whens[0].Name = "", 9, op("none"), "0"
			spoil(s)
		}}
	}
	broad := api.Expr{Op: api.Num, Text: "1", Kids: make([]api.Expr, 100000)}
	malformed := op("none")
	for range api.MaxDepth {
		malformed = op("", malformed)
	}
	checkChanges(t, api.ErrForm, []change[api.System]{spoiled(func(s *api.System) {})})
	checkChanges(t, api.ErrSize, []change[api.System]{
		spoiled(func(s *api.System) { s.Vars = make([]api.Var, 121) }),
		spoiled(func(s *api.System) { s.Eqs = make([]api.Eq, 121) }),
		spoiled(func(s *api.System) { s.Inits = make([]api.Eq, 121) }),
		spoiled(func(s *api.System) { s.Whens = make([]api.When, 121) }),
		spoiled(func(s *api.System) { s.Whens[1].Acts = make([]api.Act, 21) }),
		spoiled(func(s *api.System) { s.Eqs[1].Left = malformed }),
		spoiled(func(s *api.System) { s.Eqs[1].Right = broad }),
		spoiled(func(s *api.System) { s.Inits[0].Left = endless() }),
		spoiled(func(s *api.System) { s.Inits[0].Right = endless() }),
		spoiled(func(s *api.System) { s.Whens[1].Cond = endless() }),
		spoiled(func(s *api.System) { s.Whens[1].Acts[1].Value = broad }),
	})
}

// All functions that are given a system look at it as Check does, before they look at anything else.
func TestSystemFirst(t *testing.T) {
	large, malformed := plant(), plant()
	large.Eqs[0].Left = endless()
	malformed.Vars[0].Name = ""
	env := api.Env{Time: "none", Binds: make([]api.Bind, api.MaxBinds+1)}
	for _, c := range []struct {
		s    api.System
		want api.Errno
	}{{large, api.ErrSize}, {malformed, api.ErrForm}} {
		check := func(name string, zero bool, e api.Errno) {
			t.Helper()
			if !zero || e != c.want {
				t.Errorf("%s: %d, want %d; a zero value: %t", name, e, c.want, zero)
			}
		}
		typ, e := system.Type(c.s, endless())
		check("Type", typ == 0, e)
		v, e := system.Eval(c.s, endless(), env)
		check("Eval", v == "", e)
		list, e := system.Residuals(c.s, env)
		check("Residuals", len(list) == 0, e)
		holds, e := system.Holds(c.s, env)
		check("Holds", !holds, e)
		uses, e := system.Uses(c.s)
		check("Uses", len(uses) == 0, e)
		got, e := system.Params(c.s)
		check("Params", got.Time == "" && len(got.Binds) == 0, e)
		r, e := system.Rename(c.s, []string{""}, nil)
		check("Rename", len(r.Vars) == 0, e)
		r, e = system.Merge(c.s, plant())
		check("Merge", len(r.Vars) == 0, e)
		r, e = system.Merge(plant(), c.s)
		check("Merge", len(r.Vars) == 0, e)
		r, e = system.Sorted(c.s)
		check("Sorted", len(r.Vars) == 0, e)
		text, e := system.Text(c.s)
		check("Text", text == "", e)
	}
}

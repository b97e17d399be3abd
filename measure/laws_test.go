package measure_test

import (
	"cmp"
	"slices"
	"strconv"
	"strings"
	"testing"

	"linkwork/api"
	"linkwork/measure"
	"linkwork/rat"
	"linkwork/system"
)

// unit returns a unit of up to 3 symbols.
func (s *source) unit() string {
	u := "1"
	for _, symbol := range []string{"K", "a", "m", "s"} {
		if s.below(2) == 0 {
			factor, _ := measure.Pow(symbol, s.exponent())
			u, _ = measure.Mul(u, factor)
		}
	}
	return u
}

func (s *source) exponent() string {
	return pick(s, "0", "1", "1", "-1", "2", "-2", "1/2", "-1/2", "3", "2/3", "-7/5", "12")
}

// P4.1
func TestLawGroup(t *testing.T) {
	s := source(1)
	must := func(u string, err api.Errno) string {
		t.Helper()
		if err != api.OK || !measure.Is(u) {
			t.Fatalf("%q, %d", u, err)
		}
		return u
	}
	mul := func(u, v string) string { t.Helper(); return must(measure.Mul(u, v)) }
	div := func(u, v string) string { t.Helper(); return must(measure.Div(u, v)) }
	pow := func(u, n string) string { t.Helper(); return must(measure.Pow(u, n)) }
	same := func(got, want string) {
		t.Helper()
		if got != want {
			t.Fatalf("%s, want %s", got, want)
		}
	}
	for range 3000 {
		u, v, w, n, m := s.unit(), s.unit(), s.unit(), s.exponent(), s.exponent()
		same(mul(u, v), mul(v, u))
		same(mul(mul(u, v), w), mul(u, mul(v, w)))
		same(mul(u, "1"), u)
		same(div(u, "1"), u)
		same(div(u, u), "1")
		same(mul(div(u, v), v), u)
		same(div(mul(u, v), v), u)
		same(div("1", u), pow(u, "-1"))
		same(div(u, v), mul(u, pow(v, "-1")))
		total, _ := rat.Add(n, m)
		same(pow(u, total), mul(pow(u, n), pow(u, m)))
		product, _ := rat.Mul(n, m)
		same(pow(pow(u, n), m), pow(u, product))
		same(pow(mul(u, v), n), mul(pow(u, n), pow(v, n)))
		for _, symbol := range []string{"K", "a", "m", "s", "z"} {
			a, _ := measure.Exponent(u, symbol)
			b, _ := measure.Exponent(v, symbol)
			both, _ := rat.Add(a, b)
			got, err := measure.Exponent(mul(u, v), symbol)
			if got != both || err != api.OK {
				t.Fatalf("the exponent of %s in %s * %s = %s, %d", symbol, u, v, got, err)
			}
		}
	}
}

// expr returns an expression of a type over the variables of system, at most so deep, with many zeros.
func (s *source) expr(typ, depth int) api.Expr {
	part := func(typ int) api.Expr { return s.expr(typ, depth-1) }
	if depth <= 1 || s.below(5) == 0 {
		if typ == api.Truth {
			return pick(s, ref("on", 0), op(api.True), op(api.Initial), op(api.Sample, num("0"), num("1/2")), op(api.Sample, num("1"), num("2")))
		}
		name := pick(s, "a", "b", "c", "d", "n")
		if s.below(8) == 0 {
			return api.Expr{Op: api.Pre, Text: name}
		}
		order := 0
		if name != "n" {
			order = s.below(6) / 4 * s.below(3)
		}
		return pick(s, ref(name, order), ref(name, 0), ref(name, 0), num("0"), num("0"), num(pick(s, "1", "-2", "1/3")), op(api.Time))
	}
	if typ == api.Truth {
		return pick(s,
			func() api.Expr {
				return op(pick(s, api.Less, api.AtMost, api.More, api.AtLeast), part(api.Number), part(api.Number))
			},
			func() api.Expr {
				kids := s.below(2)
				return op(pick(s, api.Equal, api.Unequal), part(kids), part(kids))
			},
			func() api.Expr { return op(pick(s, api.And, api.Or), part(typ), part(typ)) },
			func() api.Expr { return op(api.If, part(typ), part(typ), part(typ)) },
			func() api.Expr { return op(api.Not, part(typ)) },
		)()
	}
	switch s.below(10) {
	case 0:
		return op(api.Neg, part(typ))
	case 1:
		return op(api.If, part(api.Truth), part(typ), part(typ))
	case 2, 3:
		return op(pick(s, api.Add, api.Sub), part(typ), part(typ))
	}
	return op(pick(s, api.Mul, api.Div), part(typ), part(typ))
}

// system returns a system with few demands, so that it is often consistent.
func (s *source) system(t *testing.T) api.System {
	t.Helper()
	var sys api.System
	for _, name := range []string{"a", "b", "c", "d", "n", "on"} {
		v := api.Var{Name: name}
		switch {
		case name == "n" || name == "on":
			v.Kind = api.Discrete
		case s.below(4) == 0:
			v.Kind = api.Input
		}
		if name == "on" {
			v.Type = api.Truth
		} else if s.below(5) < 2 {
			v.Unit = pick(s, "m", "m", "s", "1", "m2", "m.s-1", "K(1/2)", "A.m(-2/3)")
		}
		sys.Vars = append(sys.Vars, v)
	}
	equation := func(name string) api.Eq {
		return api.Eq{Name: name, Left: s.expr(api.Number, 1+s.below(3)), Right: s.expr(api.Number, 1+s.below(4))}
	}
	for _, name := range []string{"e", "f", "g"}[:s.below(4)] {
		sys.Eqs = append(sys.Eqs, equation(name))
	}
	for _, name := range []string{"e", "i"}[:s.below(3)] {
		sys.Inits = append(sys.Inits, equation(name))
	}
	for _, name := range []string{"n", "on"}[:s.below(3)] {
		w := api.When{Name: "w" + name, Cond: s.expr(api.Truth, 1+s.below(3))}
		typ := api.Number
		if name == "on" {
			typ = api.Truth
		}
		w.Acts = append(w.Acts, api.Act{Kind: api.Assign, Var: name, Value: s.expr(typ, 1+s.below(3))})
		if sys.Vars[0].Kind == api.Continuous {
			w.Acts = append(w.Acts, api.Act{Kind: api.Reinit, Var: "a", Value: s.expr(api.Number, 1+s.below(3))})
		}
		sys.Whens = append(sys.Whens, w)
	}
	if err := system.Check(sys); err != api.OK {
		t.Fatalf("Check of %v: %d", sys, err)
	}
	return sys
}

// systems calls a function with many systems, and what Infer returns for them.
func systems(t *testing.T, seed source, law func(s *source, sys api.System, units []string, claim string)) {
	t.Helper()
	s := seed
	seen := make(map[api.Errno]int)
	for range 3000 {
		sys := s.system(t)
		before := text(t, sys)
		units, claim, err := measure.Infer(sys)
		if text(t, sys) != before {
			t.Fatalf("Infer changed\n%s", before)
		}
		seen[err]++
		if err != api.ErrSize {
			law(&s, sys, units, claim)
		}
	}
	if seen[api.OK] < 1000 || seen[api.ErrUnit] < 500 {
		t.Errorf("the systems are too much alike: %v", seen)
	}
}

func consistent(t *testing.T, sys api.System) bool {
	t.Helper()
	is, err := measure.Consistent(sys)
	if err != api.OK {
		t.Fatalf("Consistent of\n%s%d", text(t, sys), err)
	}
	return is
}

// Infer and Of return what the chapter's words say, with an unknown unit for each variable and for each 0.
func TestLawByWords(t *testing.T) {
	seen := make(map[api.Errno]int)
	known := 0
	systems(t, 2, func(s *source, sys api.System, units []string, claim string) {
		want, wantClaim, err := inferBook(sys)
		if err == api.ErrSize || !slices.Equal(units, want) || claim != wantClaim || consistent(t, sys) != (wantClaim == "") {
			t.Fatalf("Infer of\n%s= %q, %q; want %q, %q, %d", text(t, sys), units, claim, want, wantClaim, err)
		}
		for range 3 {
			e := s.expr(api.Number, 1+s.below(4))
			before := show(t, e)
			got, err := measure.Of(sys, e)
			want, wantErr := ofBook(sys, e)
			if got != want || err != wantErr || show(t, e) != before {
				t.Fatalf("Of %s with\n%s= %q, %d; want %q, %d", before, text(t, sys), got, err, want, wantErr)
			}
			seen[err]++
			if got != "" {
				known++
			}
		}
	})
	if known < 1000 || seen[api.OK]-known < 500 || seen[api.ErrUnit] < 1500 {
		t.Errorf("the trials are too much alike: %d, %v", known, seen)
	}
}

// P4.2, P4.3
func TestLawDetermined(t *testing.T) {
	found, open := 0, 0
	systems(t, 3, func(s *source, sys api.System, units []string, claim string) {
		if claim != "" {
			return
		}
		for i, v := range sys.Vars {
			if v.Type == api.Truth || v.Unit != "" {
				if units[i] != v.Unit {
					t.Fatalf("the unit of %s = %q with\n%s", v.Name, units[i], text(t, sys))
				}
				continue
			}
			for _, other := range []string{"1", "m", "K(1/2).m-1", "s-1", units[i]} {
				changed := sys
				changed.Vars = slices.Clone(sys.Vars)
				changed.Vars[i].Unit = other
				if got := consistent(t, changed); got != (units[i] == "" || other == units[i]) {
					t.Fatalf("with the unit %q for %s it is %t that it is consistent; Infer returns %q with\n%s", other, v.Name, got, units[i], text(t, sys))
				}
			}
			if units[i] == "" {
				open++
			} else {
				found++
			}
		}
	})
	if found < 500 || open < 500 {
		t.Errorf("the trials are too much alike: %d, %d", found, open)
	}
}

// cut returns a system without the parts of it whose claims come after one, or with that one left out, too.
func cut(sys api.System, claim string, with bool) api.System {
	kind, name, _ := strings.Cut(claim, " ")
	kept := func(at string, names string) bool {
		order := cmp.Or(cmp.Compare(slices.Index([]string{"eq", "init", "when"}, at), slices.Index([]string{"eq", "init", "when"}, kind)), cmp.Compare(names, name))
		return order < 0 || order == 0 && with
	}
	sys.Eqs = slices.DeleteFunc(slices.Clone(sys.Eqs), func(q api.Eq) bool { return !kept("eq", q.Name) })
	sys.Inits = slices.DeleteFunc(slices.Clone(sys.Inits), func(q api.Eq) bool { return !kept("init", q.Name) })
	sys.Whens = slices.DeleteFunc(slices.Clone(sys.Whens), func(w api.When) bool { return !kept("when", w.Name) })
	return sys
}

// P4.4
func TestLawFirst(t *testing.T) {
	seen := make(map[string]int)
	systems(t, 4, func(s *source, sys api.System, units []string, claim string) {
		if claim == "" {
			if !consistent(t, sys) {
				t.Fatalf("Infer finds no contradiction in\n%s", text(t, sys))
			}
			return
		}
		seen[claim]++
		if !consistent(t, cut(sys, claim, false)) || consistent(t, cut(sys, claim, true)) || consistent(t, sys) {
			t.Fatalf("the claim is %q with\n%s", claim, text(t, sys))
		}
	})
	for _, claim := range []string{"eq e", "eq f", "eq g", "init e", "init i", "when wn", "when won"} {
		if seen[claim] < 20 {
			t.Errorf("the claim %q is the first one only %d times", claim, seen[claim])
		}
	}
}

// P4.6
func TestLawRenamed(t *testing.T) {
	systems(t, 5, func(s *source, sys api.System, units []string, claim string) {
		from := []string{"a", "b", "c", "d", "n", "on"}
		to := shuffled(s, []string{"a", "d", "e.x[1]", "f'", "n", "z"})
		renamed, err := system.Rename(sys, from, to)
		if err != api.OK {
			t.Fatalf("Rename: %d", err)
		}
		got, gotClaim, _ := measure.Infer(renamed)
		if gotClaim != claim || len(got) != len(units) {
			t.Fatalf("Infer, renamed to %v = %q, %q; want %q, %q", to, got, gotClaim, units, claim)
		}
		for i, unit := range units {
			at := slices.IndexFunc(renamed.Vars, func(v api.Var) bool { return v.Name == to[i] })
			if got[at] != unit {
				t.Fatalf("the unit of %s, which was %s, is %q, want %q", to[i], from[i], got[at], unit)
			}
		}
	})
}

// P4.7
func TestLawAnyOrder(t *testing.T) {
	systems(t, 6, func(s *source, sys api.System, units []string, claim string) {
		names := shuffled(s, []string{"a", "b", "c", "d", "e", "f", "g", "h"})
		other := sys
		other.Eqs, other.Inits, other.Whens = slices.Clone(sys.Eqs), slices.Clone(sys.Inits), slices.Clone(sys.Whens)
		for i := range other.Eqs {
			other.Eqs[i].Name = names[i]
		}
		for i := range other.Inits {
			other.Inits[i].Name = names[4+i]
		}
		for i := range other.Whens {
			other.Whens[i].Name = names[6+i]
		}
		other, err := system.Sorted(other)
		if err != api.OK {
			t.Fatalf("Sorted: %d", err)
		}
		if consistent(t, other) != (claim == "") {
			t.Fatalf("it is consistent, or not, with other names only:\n%s", text(t, sys))
		}
		if got, _, _ := measure.Infer(other); !slices.Equal(got, units) {
			t.Fatalf("Infer with other names = %q, want %q", got, units)
		}
	})
}

// measured are variables with units; that of x is found, y is in no other place than the Left sides of equations.
const measured = "a:m b:m c:s d:kg e:m.s-1 f:m-2 #n:1 ?on !u:kg.m x y"

// sameUnit returns an expression with a unit over the variables measured, at most so deep.
func (s *source) sameUnit(unit string, depth int) api.Expr {
	if depth <= 1 {
		return s.product(unit)
	}
	part := func() api.Expr { return s.sameUnit(unit, depth-1) }
	other := pick(s, "m", "s", "kg", "1", "m.s-1", "m-2")
	switch s.below(7) {
	case 0:
		return op(api.Neg, part())
	case 1:
		return op(api.If, s.condition(depth-1), part(), part())
	case 2, 3:
		return op(pick(s, api.Add, api.Sub), part(), part())
	case 4:
		factor, _ := measure.Div(unit, other)
		return op(api.Mul, s.sameUnit(other, depth-1), s.sameUnit(factor, depth-1))
	case 5:
		dividend, _ := measure.Mul(unit, other)
		return op(api.Div, s.sameUnit(dividend, depth-1), s.sameUnit(other, depth-1))
	}
	return s.product(unit)
}

// product returns a product of variables with a unit, or 0.
func (s *source) product(unit string) api.Expr {
	if s.below(12) == 0 {
		return num("0")
	}
	e := pick(s, num("1"), num("2"), num("-1/3"), ref("n", 0), api.Expr{Op: api.Pre, Text: "n"})
	for _, base := range []struct {
		symbol string
		kinds  []api.Expr
	}{
		{"kg", []api.Expr{ref("d", 0), ref("d", 0), op(api.Div, ref("u", 0), ref("b", 0)), op(api.Div, ref("x", 0), ref("a", 0)), op(api.Mul, ref("d", 2), op(api.Mul, ref("c", 0), op(api.Time)))}},
		{"m", []api.Expr{ref("a", 0), ref("b", 0), api.Expr{Op: api.Pre, Text: "a"}, op(api.Mul, ref("a", 1), op(api.Time)), op(api.Div, num("1"), op(api.Mul, ref("f", 0), ref("a", 0))), op(api.Mul, ref("e", 0), ref("c", 0))}},
		{"s", []api.Expr{op(api.Time), op(api.Time), ref("c", 0), op(api.Div, ref("a", 0), ref("e", 0))}},
	} {
		text, _ := measure.Exponent(unit, base.symbol)
		exponent, _ := strconv.Atoi(text)
		for range exponent {
			e = op(api.Mul, e, pick(s, base.kinds...))
		}
		for range -exponent {
			e = op(api.Div, e, pick(s, base.kinds...))
		}
	}
	return e
}

func (s *source) condition(depth int) api.Expr {
	unit := pick(s, "m", "s", "kg", "1", "m.s-1")
	compared := op(pick(s, api.Less, api.AtMost, api.More, api.AtLeast, api.Equal, api.Unequal), s.sameUnit(unit, depth), s.sameUnit(unit, depth))
	return pick(s, compared, compared, op(api.Not, compared), ref("on", 0), op(api.Initial), op(api.And, ref("on", 0), compared), op(api.Equal, ref("on", 0), compared))
}

// truths returns the truths in an expression.
func truths(sys api.System, e api.Expr) []api.Expr {
	var list []api.Expr
	if typ, _ := system.Type(sys, e); typ == api.Truth {
		list = append(list, e)
	}
	for _, kid := range e.Kids {
		list = append(list, truths(sys, kid)...)
	}
	return list
}

// instant returns an environment with values for all uses of a system.
func (s *source) instant(sys api.System) api.Env {
	uses, _ := system.Uses(sys)
	env := api.Env{Time: pick(s, "0", "1", "2", "-3/2", "7"), Initial: s.below(2) == 0}
	for _, u := range uses {
		value := pick(s, "1", "1", "2", "-1", "-2/3", "5", "1/2", "3", "0")
		if u.Name == "on" {
			value = pick(s, "true", "false")
		}
		env.Binds = append(env.Binds, api.Bind{Use: u, Value: value})
	}
	return env
}

// sides returns the values of both sides of an equation, and the first error.
func sides(sys api.System, q api.Eq, env api.Env) (string, string, api.Errno) {
	left, err := system.Eval(sys, q.Left, env)
	if err != api.OK {
		return "", "", err
	}
	right, err := system.Eval(sys, q.Right, env)
	return left, right, err
}

// P4.5
func TestLawHomogeneous(t *testing.T) {
	s := source(7)
	seen := make(map[string]int)
	for range 1500 {
		sys := model(t, measured, "eq a @x mul(@a;@d)")
		unit := pick(&s, "1", "m", "kg.m-1", "m2.s-2", "s")
		q := api.Eq{Name: "q", Left: ref("y", 0), Right: s.sameUnit(unit, 5)}
		sys.Eqs = append(sys.Eqs, q)
		sys.Vars[len(sys.Vars)-1].Unit = unit
		if system.Check(sys) != api.OK {
			continue // it is too large
		}
		if !consistent(t, sys) {
			t.Fatalf("it is not consistent:\n%s", text(t, sys))
		}
		env := s.instant(sys)
		if value, err := system.Eval(sys, q.Right, env); err == api.OK && s.below(3) > 0 {
			env, _ = system.Bind(env, api.Use{Name: "y"}, value)
		}
		symbols := words("K kg m s")
		factors := []string{"3", pick(&s, "1", "1000", "2/3"), pick(&s, "100", "1/2", "7"), pick(&s, "1/60", "4", "1")}
		scaled, err := measure.Scale(sys, env, symbols, factors)
		if err != api.OK {
			t.Fatalf("Scale by %v with\n%s%d", factors, text(t, sys), err)
		}
		left, right, err := sides(sys, q, env)
		left2, right2, err2 := sides(sys, q, scaled)
		if err2 != err || err == api.OK && (left == right) != (left2 == right2) {
			t.Fatalf("%s = %s, %d; scaled by %v %s = %s, %d, with\n%s", left, right, err, factors, left2, right2, err2, text(t, sys))
		}
		switch {
		case err != api.OK:
			seen["no value"]++
		case left == right:
			seen["holds"]++
		default:
			seen["fails"]++
		}
		for _, e := range truths(sys, q.Right) {
			truth, err := system.Eval(sys, e, env)
			if again, err2 := system.Eval(sys, e, scaled); again != truth || err2 != err {
				t.Fatalf("%s is %s, %d, scaled by %v %s, %d", show(t, e), truth, err, factors, again, err2)
			}
			seen["truth "+truth]++
		}
	}
	for what, least := range map[string]int{"no value": 200, "holds": 300, "fails": 200, "truth true": 500, "truth false": 500} {
		if seen[what] < least {
			t.Errorf("the trials are too much alike: %v", seen)
		}
	}
}

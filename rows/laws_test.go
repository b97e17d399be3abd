package rows_test

import (
	"reflect"
	"slices"
	"strconv"
	"testing"

	"linkwork/api"
	"linkwork/rat"
	"linkwork/rows"
	"linkwork/system"
)

// source is a row of numbers that look random and are the same in every run.
type source uint64

func (s *source) below(n int) int {
	*s = *s*6364136223846793005 + 1442695040888963407
	return int(uint64(*s) >> 33 % uint64(n))
}

func pick[T any](s *source, list ...T) T {
	return list[s.below(len(list))]
}

// number returns a small number, often 0 or 1, so that comparisons are often equal and quotients sometimes fail.
func (s *source) number() string {
	return pick(s, "0", "0", "1", "1", "-1", "2", "1/2", "-1/2", "-7/3", "5")
}

// taste is what expressions are made of: leaves of both types, and operators of two numbers.
type taste struct {
	numbers, truths []api.Expr
	operators       []string
	compared        bool // whether numbers are compared
}

func (t taste) leaves(typ int) []api.Expr {
	if typ == api.Truth {
		return t.truths
	}
	return t.numbers
}

// expr returns an expression of a type, at most so deep.
func (s *source) expr(t taste, typ, depth int) api.Expr {
	if depth <= 1 || s.below(6) == 0 {
		return pick(s, t.leaves(typ)...)
	}
	part := func(typ int) api.Expr { return s.expr(t, typ, depth-1) }
	switch {
	case s.below(5) == 0:
		return op(api.If, part(api.Truth), part(typ), part(typ))
	case typ == api.Number && s.below(5) == 0:
		return op(api.Neg, part(typ))
	case typ == api.Number:
		return op(pick(s, t.operators...), part(typ), part(typ))
	case t.compared && s.below(2) == 0:
		return op(pick(s, api.Less, api.AtMost, api.More, api.AtLeast, api.Equal, api.Unequal), part(api.Number), part(api.Number))
	case s.below(4) == 0:
		return op(api.Not, part(typ))
	}
	return op(pick(s, api.And, api.Or, api.Equal, api.Unequal), part(typ), part(typ))
}

func calculations() []string {
	return []string{api.Add, api.Sub, api.Mul, api.Div}
}

// anything is a taste for what an expression of the plant can have, with Orders up to a greatest one.
func (s *source) anything(order int) taste {
	t := taste{operators: calculations(), compared: true}
	for _, name := range []string{"x", "y", "z", "u"} {
		t.numbers = append(t.numbers, ref(name, 0), ref(name, s.below(order+1)))
	}
	t.numbers = append(t.numbers, ref("k", 0), ref("n", 0), api.Expr{Op: api.Pre, Text: "n"}, api.Expr{Op: api.Pre, Text: "x"}, op(api.Time), num(s.number()), num(s.number()), num(s.number()))
	t.truths = []api.Expr{ref("on", 0), ref("lock", 0), truth(true), truth(false), op(api.Initial), op(api.Sample, num("0"), num("1/2"))}
	return t
}

// linearTaste returns a taste for expressions that are often linear in unknowns: these are the greater part of leaves.
func (s *source) linearTaste(unknowns []api.Use) taste {
	t := taste{operators: []string{api.Add, api.Sub, api.Add, api.Sub, api.Mul, api.Div}}
	t.numbers = []api.Expr{num(s.number()), num(s.number()), ref("k", 0), ref("n", 0), ref("u", 0), op(api.Time)}
	for _, u := range unknowns {
		t.numbers = append(t.numbers, ref(u.Name, u.Order), num(s.number()))
	}
	t.truths = []api.Expr{ref("on", 0), ref("lock", 0), truth(true), op(api.Less, ref("u", 0), num("1")), op(api.Equal, ref("n", 0), ref("k", 0))}
	return t
}

// unknowns returns up to 5 unknowns of the plant.
func (s *source) unknowns() []api.Use {
	var list []api.Use
	for _, name := range []string{"x", "y", "z"} {
		for order := range 3 {
			if s.below(3) == 0 && len(list) < 5 {
				list = append(list, use(name, order))
			}
		}
	}
	return list
}

// env returns an environment with values of the right types for uses of the plant.
func (s *source) env(uses []api.Use) api.Env {
	env := api.Env{Time: s.number(), Initial: s.below(2) == 0}
	for _, u := range uses {
		value := s.number()
		if u.Name == "on" || u.Name == "lock" {
			value = pick(s, "true", "false")
		}
		env.Binds = append(env.Binds, api.Bind{Use: u, Value: value})
	}
	return env
}

func usesOf(t *testing.T, list ...api.Expr) []api.Use {
	t.Helper()
	var all []api.Use
	for _, e := range list {
		uses, err := system.Of(e)
		if err != api.OK {
			t.Fatalf("Of %v: %d", e, err)
		}
		all = append(all, uses...)
	}
	var env api.Env
	env.Time = "0"
	for _, u := range all {
		env, _ = system.Bind(env, u, "0")
	}
	uses := make([]api.Use, len(env.Binds))
	for i, b := range env.Binds {
		uses[i] = b.Use
	}
	return uses
}

// with returns an environment with further values, or other ones.
func with(t *testing.T, env api.Env, uses []api.Use, values []string) api.Env {
	t.Helper()
	for i, u := range uses {
		next, err := system.Bind(env, u, values[i])
		if err != api.OK {
			t.Fatalf("Bind of %v to %s: %d", u, values[i], err)
		}
		env = next
	}
	return env
}

// result is what Eval returns.
type result struct {
	value string
	err   api.Errno
}

func eval(s api.System, e api.Expr, env api.Env) result {
	value, err := system.Eval(s, e, env)
	return result{value, err}
}

// rowAt is a row, with the error of finding it.
type rowAt struct {
	coeffs   []string
	constant string
	err      api.Errno
}

func rowOf(s api.System, e api.Expr, unknowns []api.Use, env api.Env) rowAt {
	coeffs, constant, err := rows.Row(s, e, unknowns, env)
	return rowAt{coeffs, constant, err}
}

// at returns the value of a row with values of the unknowns.
func (r rowAt) at(values []string) string {
	dot, _ := rat.Dot(r.coeffs, values)
	sum, _ := rat.Add(dot, r.constant)
	return sum
}

func (r rowAt) plus(o rowAt, factor string) rowAt {
	more := func(a, b string) string {
		b, _ = rat.Mul(b, factor)
		a, _ = rat.Add(a, b)
		return a
	}
	sum := rowAt{make([]string, len(r.coeffs)), more(r.constant, o.constant), api.OK}
	for i := range r.coeffs {
		sum.coeffs[i] = more(r.coeffs[i], o.coeffs[i])
	}
	return sum
}

// linearTrials calls a function with pairs of expressions that are linear in unknowns, and an environment in which
// the unknowns have binds, too.
func linearTrials(t *testing.T, law func(s *source, sys api.System, a, b api.Expr, unknowns []api.Use, env api.Env)) {
	t.Helper()
	s, sys, tried := source(3), plant(t), 0
	for range 6000 {
		unknowns := s.unknowns()
		taste := s.linearTaste(unknowns)
		a, b := s.expr(taste, api.Number, 5), s.expr(taste, api.Number, 4)
		for _, e := range []*api.Expr{&a, &b} {
			is, err := rows.IsLinear(sys, *e, unknowns)
			if err != api.OK {
				t.Fatalf("IsLinear: %d", err)
			}
			if !is {
				*e = pick(&s, taste.numbers...)
			}
		}
		if len(unknowns) > 0 && len(a.Kids) > 0 {
			law(&s, sys, a, b, unknowns, s.env(usesOf(t, append(taste.numbers, a, b)...)))
			tried++
		}
	}
	if tried < 2000 {
		t.Errorf("only %d trials", tried)
	}
}

// numbersFor returns a number for each of some things.
func numbersFor[T any](s *source, list []T) []string {
	values := make([]string, len(list))
	for i := range values {
		values[i] = s.number()
	}
	return values
}

// P3.1, P3.2: whatever values the unknowns have, the value of an expression is that of its row.
func TestLawRow(t *testing.T) {
	seen := make(map[api.Errno]int)
	linearTrials(t, func(s *source, sys api.System, e, _ api.Expr, unknowns []api.Use, env api.Env) {
		r := rowOf(sys, e, unknowns, env)
		seen[r.err]++
		points := [][]string{numbersFor(s, unknowns), numbersFor(s, unknowns), slices.Repeat([]string{"0"}, len(unknowns))}
		for i := range unknowns {
			one := slices.Repeat([]string{"0"}, len(unknowns))
			one[i] = "1"
			points = append(points, one)
		}
		for _, values := range points {
			got := eval(sys, e, with(t, env, unknowns, values))
			if got.err != r.err || got.err == api.OK && got.value != r.at(values) {
				t.Fatalf("%s is %v, its row %v, with %v as %v", show(t, e), got, r, unknowns, values)
			}
		}
	})
	if seen[api.OK] < 1000 || seen[api.ErrZero] < 100 {
		t.Errorf("the trials are too much alike: %v", seen)
	}
}

// Binds of the unknowns do not matter, whatever they are, nor whether there are any.
func TestLawUnknownBinds(t *testing.T) {
	linearTrials(t, func(s *source, sys api.System, e, _ api.Expr, unknowns []api.Use, env api.Env) {
		want := rowOf(sys, e, unknowns, env)
		other := with(t, env, unknowns, slices.Repeat([]string{"true"}, len(unknowns)))
		if got := rowOf(sys, e, unknowns, other); !reflect.DeepEqual(got, want) {
			t.Fatalf("the row of %s with truths = %v, want %v", show(t, e), got, want)
		}
		other.Binds = slices.DeleteFunc(other.Binds, func(b api.Bind) bool { return slices.Contains(unknowns, b.Use) })
		if got := rowOf(sys, e, unknowns, other); !reflect.DeepEqual(got, want) {
			t.Fatalf("the row of %s without binds = %v, want %v", show(t, e), got, want)
		}
	})
}

// The first error that evaluation meets is that of Row, too.
func TestLawRowErrors(t *testing.T) {
	seen := make(map[api.Errno]int)
	linearTrials(t, func(s *source, sys api.System, e, _ api.Expr, unknowns []api.Use, env api.Env) {
		values := numbersFor(s, unknowns)
		if i := s.below(len(env.Binds)); !slices.Contains(unknowns, env.Binds[i].Use) {
			env.Binds = slices.Delete(env.Binds, i, i+1)
		}
		if i := s.below(len(env.Binds)); !slices.Contains(unknowns, env.Binds[i].Use) {
			env.Binds[i].Value = pick(s, "true", "1")
		}
		env = with(t, env, unknowns, values)
		want := eval(sys, e, env)
		seen[want.err]++
		got := rowOf(sys, e, unknowns, env)
		if got.err != want.err || got.err == api.OK && got.at(values) != want.value {
			t.Fatalf("the row of %s = %v, want %v", show(t, e), got, want)
		}
	})
	if seen[api.ErrNone] < 100 || seen[api.ErrType] < 50 || seen[api.ErrZero] < 100 {
		t.Errorf("the trials are too much alike: %v", seen)
	}
}

// P3.3, and that Rows are the differences of the rows of both sides.
func TestLawSums(t *testing.T) {
	linearTrials(t, func(s *source, sys api.System, a, b api.Expr, unknowns []api.Use, env api.Env) {
		left, right := rowOf(sys, a, unknowns, env), rowOf(sys, b, unknowns, env)
		if left.err != api.OK || right.err != api.OK {
			return
		}
		less := left.plus(right, "-1")
		for _, c := range []struct {
			e    api.Expr
			want rowAt
		}{{op(api.Add, a, b), left.plus(right, "1")}, {op(api.Sub, a, b), less}, {op(api.Neg, a), left.plus(left, "-2")}, {op(api.If, truth(true), a, b), left}, {op(api.Mul, num("5"), b), right.plus(right, "4")}} {
			if got := rowOf(sys, c.e, unknowns, env); !reflect.DeepEqual(got, c.want) {
				t.Fatalf("the row of %s = %v, want %v", show(t, c.e), got, c.want)
			}
		}
		sys.Eqs = []api.Eq{{Name: "e", Left: a, Right: b}}
		coeffs, constants, err := rows.Rows(sys, []string{"e"}, unknowns, env)
		if err != api.OK || !slices.Equal(coeffs[0], less.coeffs) {
			t.Fatalf("Rows of %s and %s = %v, %d; want %v", show(t, a), show(t, b), coeffs, err, less)
		}
		if negative, _ := rat.Sub("0", less.constant); constants[0] != negative {
			t.Fatalf("Rows of %s and %s have the constant %v, want %s", show(t, a), show(t, b), constants, negative)
		}
	})
}

// IsLinear is as the rules say, and Row refuses just what is not linear.
func TestLawLinear(t *testing.T) {
	s, sys := source(4), plant(t)
	seen := make(map[bool]int)
	for range 4000 {
		unknowns := s.unknowns()
		e := s.expr(s.anything(2), api.Number, 5)
		is, err := rows.IsLinear(sys, e, unknowns)
		if err != api.OK || is != linearByRules(t, e, unknowns) {
			t.Fatalf("IsLinear of %s in %v = %t, %d", show(t, e), unknowns, is, err)
		}
		seen[is]++
		if r := rowOf(sys, e, unknowns, s.env(usesOf(t, e))); (r.err == api.ErrLinear) == is {
			t.Fatalf("Row of %s in %v: %d", show(t, e), unknowns, r.err)
		}
	}
	if seen[true] < 500 || seen[false] < 500 {
		t.Errorf("the trials are too much alike: %v", seen)
	}
}

// linearByRules counts, from the leaves on, how often unknowns are multiplied: what is not linear in them counts as 2.
func linearByRules(t *testing.T, e api.Expr, unknowns []api.Use) bool {
	var degree func(e api.Expr) int
	degree = func(e api.Expr) int {
		var kids []int
		for _, kid := range e.Kids {
			kids = append(kids, degree(kid))
		}
		switch {
		case len(kids) == 0:
			if e.Op == api.Ref && slices.Contains(unknowns, use(e.Text, e.Order)) {
				return 1
			}
			return 0
		case e.Op == api.Mul:
			return min(2, kids[0]+kids[1])
		case e.Op == api.Div, e.Op == api.If && kids[0] > 0:
			return min(2, kids[0]+2*slices.Max(kids[1:]))
		case slices.Contains([]string{api.Neg, api.Add, api.Sub, api.If}, e.Op):
			return slices.Max(kids)
		}
		return min(2, 2*slices.Max(kids))
	}
	return degree(e) < 2
}

// poly is a polynomial of time, by its coefficients.
type poly []string

func (p poly) plus(q poly, factor string) poly {
	sum := slices.Repeat(poly{"0"}, max(len(p), len(q)))
	copy(sum, p)
	for i, c := range q {
		c, _ = rat.Mul(c, factor)
		sum[i], _ = rat.Add(sum[i], c)
	}
	return sum
}

func (p poly) times(q poly) poly {
	product := slices.Repeat(poly{"0"}, len(p)+len(q))
	for i, a := range p {
		for j, b := range q {
			c, _ := rat.Mul(a, b)
			product[i+j], _ = rat.Add(product[i+j], c)
		}
	}
	return product
}

func (p poly) derived() poly {
	d := poly{"0"}
	for i := 1; i < len(p); i++ {
		c, _ := rat.Mul(p[i], strconv.Itoa(i))
		d = append(d[:i-1], c, "0")
	}
	return d
}

func (p poly) at(time string) string {
	value := "0"
	for _, c := range slices.Backward(p) {
		value, _ = rat.Mul(value, time)
		value, _ = rat.Add(value, c)
	}
	return value
}

// ratio is a quotient of polynomials.
type ratio struct{ num, den poly }

// ratioOf returns what an expression is as a function of time, if the variables are polynomials. Truths are those of env.
func ratioOf(e api.Expr, sys api.System, env api.Env, motions map[string]poly) ratio {
	part := func(i int) ratio { return ratioOf(e.Kids[i], sys, env, motions) }
	one := poly{"1"}
	switch e.Op {
	case api.Time:
		return ratio{poly{"0", "1"}, one}
	case api.Ref:
		if p, ok := motions[e.Text]; ok {
			for range e.Order {
				p = p.derived()
			}
			return ratio{p, one}
		}
	case api.Neg:
		return ratio{poly{}.plus(part(0).num, "-1"), part(0).den}
	case api.Add, api.Sub:
		a, b := part(0), part(1)
		factor := map[string]string{api.Add: "1", api.Sub: "-1"}[e.Op]
		return ratio{a.num.times(b.den).plus(b.num.times(a.den), factor), a.den.times(b.den)}
	case api.Mul:
		return ratio{part(0).num.times(part(1).num), part(0).den.times(part(1).den)}
	case api.Div:
		return ratio{part(0).num.times(part(1).den), part(0).den.times(part(1).num)}
	case api.If:
		if eval(sys, e.Kids[0], env).value == "true" {
			return part(1)
		}
		return part(2)
	}
	return ratio{poly{eval(sys, e, env).value}, one}
}

// moving returns an environment at a time in which Continuous variables and the Input are polynomials, with all Orders.
func (s *source) moving(t *testing.T) (api.Env, map[string]poly) {
	env := at(t, pick(s, "0", "1", "2", "-1/2", "3"), "@k="+s.number(), "@n="+s.number(), "@on="+pick(s, "true", "false"), "@lock=true", "pre@n=3", "pre@x=7")
	motions := make(map[string]poly)
	for _, name := range []string{"x", "y", "z", "u"} {
		p := poly(numbersFor(s, make([]int, 4)))
		motions[name] = p
		for order := range api.MaxOrder + 1 {
			env = with(t, env, []api.Use{use(name, order)}, []string{p.at(env.Time)})
			p = p.derived()
		}
	}
	return env, motions
}

// P3.4
func TestLawDerivative(t *testing.T) {
	s, sys, tried := source(5), plant(t), 0
	for range 1500 {
		env, motions := s.moving(t)
		steady := s.anything(2)
		steady.compared = false // what is compared may change
		steady.truths = steady.truths[:4]
		e := s.expr(steady, api.Number, 4)
		d, err := rows.Derive(sys, e)
		if err == api.ErrSize {
			continue
		}
		if err != api.OK {
			t.Fatalf("Derive of %s: %d", show(t, e), err)
		}
		value := eval(sys, e, env)
		slope := eval(sys, d, env)
		if slope.err != value.err {
			t.Fatalf("%s is %v, its derivative %v", show(t, e), value, slope)
		}
		if value.err != api.OK {
			continue
		}
		f := ratioOf(e, sys, env, motions)
		high := f.num.derived().times(f.den).plus(f.num.times(f.den.derived()), "-1").at(env.Time)
		low := f.den.times(f.den).at(env.Time)
		if want, _ := rat.Div(high, low); want != slope.value {
			t.Fatalf("the derivative of %s is %s, which is %s; want %s", show(t, e), show(t, d), slope.value, want)
		}
		tried++
	}
	if tried < 700 {
		t.Errorf("only %d trials", tried)
	}
}

// P3.4 for equations that are derived several times: their sides are those of the sides derived one after the other.
func TestLawDeriveEq(t *testing.T) {
	s, sys, tried := source(6), plant(t), 0
	for range 300 {
		taste := s.anything(1)
		left, right := s.expr(taste, api.Number, 3), s.expr(taste, api.Number, 2)
		sys.Eqs = []api.Eq{{Name: "e", Left: left, Right: right}}
		name := "e"
		for times := range 4 {
			q, err := rows.DeriveEq(sys, "e", times)
			if err == api.ErrSize {
				break
			}
			if err != api.OK || q.Name != name || show(t, q.Left) != show(t, left) || show(t, q.Right) != show(t, right) {
				t.Fatalf("DeriveEq of %v, %d times = %v, %d", sys.Eqs[0], times, q, err)
			}
			tried++
			var leftErr, rightErr api.Errno
			left, leftErr = rows.Derive(sys, left)
			right, rightErr = rows.Derive(sys, right)
			if leftErr != api.OK || rightErr != api.OK {
				break
			}
			name += "'"
		}
	}
	if tried < 500 {
		t.Errorf("only %d trials", tried)
	}
}

// P3.5
func TestLawRules(t *testing.T) {
	s, sys, tried := source(7), plant(t), 0
	for range 1500 {
		taste := s.anything(2)
		a, b := s.expr(taste, api.Number, 3), s.expr(taste, api.Number, 3)
		da, errA := rows.Derive(sys, a)
		db, errB := rows.Derive(sys, b)
		if errA != api.OK || errB != api.OK {
			t.Fatalf("Derive: %d, %d", errA, errB)
		}
		cross := func(name string) api.Expr { return op(name, op(api.Mul, da, b), op(api.Mul, a, db)) }
		for _, c := range []struct{ e, want api.Expr }{
			{op(api.Add, a, b), op(api.Add, da, db)}, {op(api.Sub, a, b), op(api.Sub, da, db)}, {op(api.Neg, a), op(api.Neg, da)},
			{op(api.Mul, a, b), cross(api.Add)}, {op(api.Div, a, b), op(api.Div, cross(api.Sub), op(api.Mul, b, b))},
		} {
			d, err := rows.Derive(sys, c.e)
			if err == api.ErrSize {
				continue
			}
			if err != api.OK {
				t.Fatalf("Derive of %s: %d", show(t, c.e), err)
			}
			env := s.env(usesOf(t, d))
			if got, want := eval(sys, d, env), eval(sys, c.want, env); got != want {
				t.Fatalf("the derivative of %s is %v, want %v", show(t, c.e), got, want)
			}
			tried++
		}
	}
	if tried < 3000 {
		t.Errorf("only %d trials", tried)
	}
}

// foldable returns a taste for expressions with many constants.
func (s *source) foldable() taste {
	t := s.anything(2)
	for range 30 {
		t.numbers = append(t.numbers, num(s.number()))
		t.truths = append(t.truths, truth(s.below(2) == 0))
	}
	return t
}

// P3.6
func TestLawFolded(t *testing.T) {
	s, sys := source(8), plant(t)
	seen := make(map[api.Errno]int)
	for range 4000 {
		e := s.expr(s.foldable(), s.below(2), 5)
		before := show(t, e)
		f, err := rows.Fold(sys, e)
		if err != api.OK || show(t, e) != before {
			t.Fatalf("Fold of %s: %d", before, err)
		}
		if want := foldedByRules(e); show(t, f) != show(t, want) {
			t.Fatalf("Fold of %s = %s, want %s", before, show(t, f), show(t, want))
		}
		again, err := rows.Fold(sys, f)
		if err != api.OK || show(t, again) != show(t, f) {
			t.Fatalf("Fold of %s, folded = %s, %d", show(t, f), show(t, again), err)
		}
		env := s.env(usesOf(t, e))
		if i := s.below(len(env.Binds) + 5); i < len(env.Binds) {
			env.Binds = slices.Delete(env.Binds, i, i+1)
		}
		got, want := eval(sys, f, env), eval(sys, e, env)
		seen[want.err]++
		if got != want {
			t.Fatalf("%s is %v, folded %v", before, want, got)
		}
	}
	if seen[api.OK] < 1000 || seen[api.ErrZero] < 100 || seen[api.ErrNone] < 50 {
		t.Errorf("the trials are too much alike: %v", seen)
	}
}

// foldedByRules folds from the leaves on, with numbers that are short enough for package rat.
func foldedByRules(e api.Expr) api.Expr {
	r := api.Expr{Op: e.Op, Text: e.Text, Order: e.Order}
	all := true
	for _, kid := range e.Kids {
		k := foldedByRules(kid)
		r.Kids = append(r.Kids, k)
		all = all && slices.Contains([]string{api.Num, api.True, api.False}, k.Op)
	}
	if len(r.Kids) == 0 || r.Op == api.Sample {
		return r
	}
	first := r.Kids[0].Op
	switch {
	case r.Op == api.If && first == api.True, r.Op == api.And && first == api.True, r.Op == api.Or && first == api.False:
		return r.Kids[1]
	case r.Op == api.If && first == api.False:
		return r.Kids[2]
	case r.Op == api.And && first == api.False, r.Op == api.Or && first == api.True:
		return r.Kids[0]
	case !all, r.Op == api.Div && r.Kids[1].Text == "0":
		return r
	case r.Op == api.Neg:
		negative, _ := rat.Sub("0", r.Kids[0].Text)
		return num(negative)
	case r.Op == api.Not:
		return truth(first == api.False)
	}
	return calculatedByRules(r.Op, r.Kids[0], r.Kids[1])
}

func calculatedByRules(name string, first, second api.Expr) api.Expr {
	a, b := first.Text, second.Text
	numbers := map[string]func(a, b string) (string, api.Errno){api.Add: rat.Add, api.Sub: rat.Sub, api.Mul: rat.Mul, api.Div: rat.Div}
	if calculate := numbers[name]; calculate != nil {
		value, _ := calculate(a, b)
		return num(value)
	}
	order, _ := rat.Cmp(a, b)
	same := first.Op == second.Op && a == b
	truths := map[string]bool{api.Less: order < 0, api.AtMost: order <= 0, api.More: order > 0, api.AtLeast: order >= 0, api.Equal: same, api.Unequal: !same}
	return truth(truths[name])
}

// P3.7
func TestLawPut(t *testing.T) {
	s, sys := source(9), plant(t)
	seen := make(map[api.Errno]int)
	for range 4000 {
		taste := s.anything(2)
		e := s.expr(taste, s.below(2), 4)
		uses := usesOf(t, e, ref("x", 0))
		u := pick(&s, uses...)
		typ := api.Number
		if u.Name == "on" || u.Name == "lock" {
			typ = api.Truth
		}
		by := s.expr(taste, typ, 3)
		env := s.env(usesOf(t, e, by, ref("x", 0)))
		value := eval(sys, by, env)
		if value.err != api.OK {
			continue
		}
		before, beforeBy := show(t, e), show(t, by)
		p, err := rows.Put(sys, e, u, by)
		if err == api.ErrSize {
			continue
		}
		if err != api.OK || show(t, e) != before || show(t, by) != beforeBy {
			t.Fatalf("Put of %s for %v in %s: %d", beforeBy, u, before, err)
		}
		got, want := eval(sys, p, env), eval(sys, e, with(t, env, []api.Use{u}, []string{value.value}))
		seen[want.err]++
		if got != want {
			t.Fatalf("%s with %s for %v is %v, with its value %v", before, beforeBy, u, got, want)
		}
	}
	if seen[api.OK] < 1500 || seen[api.ErrZero] < 100 {
		t.Errorf("the trials are too much alike: %v", seen)
	}
}

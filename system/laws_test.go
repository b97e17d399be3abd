package system_test

import (
	"reflect"
	"slices"
	"strconv"
	"strings"
	"testing"

	"linkwork/api"
	"linkwork/rat"
	"linkwork/system"
)

// source is a row of numbers that look random and are the same in every run.
type source uint64

func (s *source) below(n int) int {
	*s = *s*6364136223846793005 + 1442695040888963407
	return int(uint64(*s) >> 33 % uint64(n))
}

func pick[T any](s *source, list ...T) T {
	return list[s.below(len(list))]
}

func shuffle[T any](s *source, list []T) {
	for i := range list {
		j := s.below(i + 1)
		list[i], list[j] = list[j], list[i]
	}
}

// number returns a small number, often 0 or 1, so that comparisons are often equal and quotients sometimes fail.
func (s *source) number() string {
	return pick(s, "0", "0", "1", "1", "-1", "2", "1/2", "-1/2", "-7/3", "5", "123456789/1000")
}

func (s *source) value(t int) string {
	if t == api.Truth {
		return pick(s, "true", "false")
	}
	return s.number()
}

// system returns a valid system; all its names begin with a prefix.
func (s *source) system(prefix string) api.System {
	var r api.System
	for i := range 4 + s.below(6) {
		v := api.Var{Name: prefix + strconv.Itoa(10+i), Kind: s.below(4)}
		if v.Kind == api.Discrete || v.Kind == api.Param {
			v.Type = s.below(2)
		}
		if v.Kind == api.Param {
			v.Value = s.value(v.Type)
		}
		if (v.Kind == api.Continuous || v.Kind == api.Discrete) && s.below(2) == 0 {
			v.Start, v.Fixed = s.value(v.Type), s.below(2) == 0
		}
		if v.Type == api.Number {
			v.Unit = pick(s, "", "", "1", "m", "kg.m2.s-2", "V(-1/2)")
		}
		r.Vars = append(r.Vars, v)
	}
	for i := range s.below(5) {
		r.Eqs = append(r.Eqs, api.Eq{Name: prefix + strconv.Itoa(i), Left: s.expr(r.Vars, api.Number, 3), Right: s.expr(r.Vars, api.Number, 2)})
	}
	for i := range s.below(3) {
		r.Inits = append(r.Inits, api.Eq{Name: prefix + strconv.Itoa(i), Left: s.expr(r.Vars, api.Number, 2), Right: s.expr(r.Vars, api.Number, 3)})
	}
	var w api.When
	for _, v := range r.Vars {
		if v.Kind == api.Discrete {
			w.Acts = append(w.Acts, api.Act{Kind: api.Assign, Var: v.Name, Value: s.expr(r.Vars, v.Type, 2)})
		}
		if v.Kind == api.Continuous {
			w.Acts = append(w.Acts, api.Act{Kind: api.Reinit, Var: v.Name, Value: s.expr(r.Vars, v.Type, 2)})
		}
	}
	if len(w.Acts) > 0 {
		w.Name, w.Cond = prefix+"w", s.expr(r.Vars, api.Truth, 3)
		r.Whens = append(r.Whens, w)
	}
	return r
}

// expr returns an expression with a type, over variables, that is at most so deep.
func (s *source) expr(vars []api.Var, t int, depth int) api.Expr {
	if depth <= 1 || s.below(6) == 0 {
		return s.leaf(vars, t)
	}
	number := func() api.Expr { return s.expr(vars, api.Number, depth-1) }
	truthful := func() api.Expr { return s.expr(vars, api.Truth, depth-1) }
	if s.below(5) == 0 {
		return choice(truthful(), s.expr(vars, t, depth-1), s.expr(vars, t, depth-1))
	}
	if t == api.Number {
		if s.below(5) == 0 {
			return neg(number())
		}
		return op(pick(s, api.Add, api.Sub, api.Mul, api.Div), number(), number())
	}
	switch s.below(6) {
	case 0:
		return op(api.Not, truthful())
	case 1, 2:
		return op(pick(s, api.And, api.Or), truthful(), truthful())
	case 3:
		return op(pick(s, api.Equal, api.Unequal), truthful(), truthful())
	}
	return op(pick(s, api.Less, api.AtMost, api.More, api.AtLeast, api.Equal, api.Unequal), number(), number())
}

func (s *source) leaf(vars []api.Var, t int) api.Expr {
	v := pick(s, vars...)
	if v.Type == t {
		if s.below(3) == 0 {
			return pre(v.Name)
		}
		if v.Kind == api.Continuous || v.Kind == api.Input {
			return der(v.Name, pick(s, 0, 0, 1, 2, 6))
		}
		return ref(v.Name)
	}
	if t == api.Truth {
		return pick(s, truth(true), truth(false), op(api.Initial), op(api.Sample, num(s.number()), num(pick(s, "1/2", "2"))))
	}
	return pick(s, num(s.number()), num(s.number()), op(api.Time))
}

// env returns an environment with values of the right types for uses of a system.
func (s *source) env(vars []api.Var, uses []api.Use) api.Env {
	env := api.Env{Time: s.number(), Initial: s.below(2) == 0}
	for _, u := range uses {
		env.Binds = append(env.Binds, api.Bind{Use: u, Value: s.value(typeOf(vars, u.Name))})
	}
	return env
}

func typeOf(vars []api.Var, name string) int {
	i := slices.IndexFunc(vars, func(v api.Var) bool { return v.Name == name })
	return vars[i].Type
}

func usesOf(t *testing.T, e api.Expr) []api.Use {
	t.Helper()
	uses, err := system.Of(e)
	if err != api.OK {
		t.Fatalf("Of: %d", err)
	}
	return uses
}

// result is what Eval returns.
type result struct {
	value string
	e     api.Errno
}

func eval(s api.System, e api.Expr, env api.Env) result {
	value, err := system.Eval(s, e, env)
	return result{value, err}
}

// trials calls a function with systems, expressions of them of both types, and environments for these.
func trials(t *testing.T, law func(s *source, sys api.System, e api.Expr, typ int, env api.Env)) {
	s := source(2)
	for range 200 {
		sys := s.system("v")
		if e := system.Check(sys); e != api.OK {
			t.Fatalf("Check of a system for a trial = %d", e)
		}
		for range 10 {
			typ := s.below(2)
			e := s.expr(sys.Vars, typ, 5)
			law(&s, sys, e, typ, s.env(sys.Vars, usesOf(t, e)))
		}
	}
}

// P2.1, P2.8
func TestLawTypes(t *testing.T) {
	seen := make(map[api.Errno]int)
	trials(t, func(s *source, sys api.System, e api.Expr, typ int, env api.Env) {
		if got, err := system.Type(sys, e); got != typ || err != api.OK {
			t.Fatalf("Type of %v = %d, %d; want %d", e, got, err, typ)
		}
		r := eval(sys, e, env)
		seen[r.e]++
		if r.e == api.ErrZero && r.value == "" || r.e == api.ErrSize && r.value == "" {
			return
		}
		if r.e != api.OK || rat.Is(r.value) != (typ == api.Number) || (r.value == "true" || r.value == "false") != (typ == api.Truth) {
			t.Fatalf("Eval of %v = %v", e, r)
		}
	})
	if seen[api.OK] < 1000 || seen[api.ErrZero] < 100 {
		t.Errorf("the trials are too much alike: %v", seen)
	}
}

// What an expression with kids evaluates to, from what its kids do: another way to the table of chapter 2.
func composed(sys api.System, e api.Expr, env api.Env) result {
	first := eval(sys, e.Kids[0], env)
	if first.e != api.OK {
		return first
	}
	switch {
	case e.Op == api.Neg:
		v, err := rat.Sub("0", first.value)
		return result{v, err}
	case e.Op == api.Not:
		return result{strconv.FormatBool(first.value == "false"), api.OK}
	case e.Op == api.If && first.value == "true":
		return eval(sys, e.Kids[1], env)
	case e.Op == api.If:
		return eval(sys, e.Kids[2], env)
	case e.Op == api.And && first.value == "false", e.Op == api.Or && first.value == "true":
		return first
	}
	second := eval(sys, e.Kids[1], env)
	if second.e != api.OK || e.Op == api.And || e.Op == api.Or {
		return second
	}
	numbers := map[string]func(a, b string) (string, api.Errno){api.Add: rat.Add, api.Sub: rat.Sub, api.Mul: rat.Mul, api.Div: rat.Div}
	if calculate := numbers[e.Op]; calculate != nil {
		v, err := calculate(first.value, second.value)
		return result{v, err}
	}
	order, _ := rat.Cmp(first.value, second.value)
	truths := map[string]bool{
		api.Less: order < 0, api.AtMost: order <= 0, api.More: order > 0, api.AtLeast: order >= 0,
		api.Equal: first.value == second.value, api.Unequal: first.value != second.value,
	}
	return result{strconv.FormatBool(truths[e.Op]), api.OK}
}

func TestLawComposed(t *testing.T) {
	trials(t, func(s *source, sys api.System, e api.Expr, typ int, env api.Env) {
		if s.below(3) == 0 && len(env.Binds) > 0 { // some without a value
			i := s.below(len(env.Binds))
			env.Binds = slices.Delete(env.Binds, i, i+1)
		}
		if s.below(3) == 0 && len(env.Binds) > 0 { // some of the other type
			i := s.below(len(env.Binds))
			env.Binds[i].Value = s.value(1 - typeOf(sys.Vars, env.Binds[i].Use.Name))
		}
		if len(e.Kids) == 0 || e.Op == api.Sample {
			return
		}
		if got, want := eval(sys, e, env), composed(sys, e, env); got != want {
			t.Fatalf("Eval of %v = %v, want %v", e, got, want)
		}
	})
}

// P2.2: binds of other uses do not matter, whatever they are.
func TestLawOtherBinds(t *testing.T) {
	trials(t, func(s *source, sys api.System, e api.Expr, typ int, env api.Env) {
		more := env
		for _, v := range sys.Vars {
			for _, u := range []api.Use{use(v.Name, 0, false), use(v.Name, 0, true), use(v.Name, 3, false), use(v.Name+"'", 0, false)} {
				if slices.Contains(usesOf(t, e), u) {
					continue
				}
				next, err := system.Bind(more, u, s.value(s.below(2)))
				if err != api.OK {
					t.Fatalf("Bind of %v: %d", u, err)
				}
				more = next
			}
		}
		if got, want := eval(sys, e, more), eval(sys, e, env); got != want {
			t.Fatalf("Eval of %v with other binds = %v, without %v", e, got, want)
		}
	})
}

// P2.2: kids that are not needed do not matter, even if they cannot be evaluated.
func TestLawUnneeded(t *testing.T) {
	trials(t, func(s *source, sys api.System, e api.Expr, typ int, env api.Env) {
		sys.Vars = append(sys.Vars, api.Var{Name: "w"})
		bad := pick(s, div(num("1"), num("0")), ref("w"))
		badTruth := op(api.Less, bad, num("0"))
		if typ == api.Number {
			if got, want := eval(sys, choice(op(api.Equal, num("1"), num("1")), e, bad), env), eval(sys, e, env); got != want {
				t.Fatalf("Eval of if = %v, want %v", got, want)
			}
			if got, want := eval(sys, choice(op(api.Less, num("1"), num("0")), bad, e), env), eval(sys, e, env); got != want {
				t.Fatalf("Eval of if = %v, want %v", got, want)
			}
			return
		}
		r := eval(sys, e, env)
		switch {
		case r.e != api.OK:
			return
		case r.value == "true":
			e = op(api.Or, e, badTruth)
		default:
			e = op(api.And, e, badTruth)
		}
		if got := eval(sys, e, env); got != r {
			t.Fatalf("Eval of %s = %v, want %v", e.Op, got, r)
		}
	})
}

// renaming returns names of a system, and other ones for them: some are the names of other variables of them.
func (s *source) renaming(sys api.System) ([]string, []string) {
	var from []string
	for _, v := range sys.Vars {
		if s.below(2) == 0 {
			from = append(from, v.Name)
		}
	}
	to := slices.Clone(from)
	shuffle(s, to)
	for i := range to {
		if s.below(2) == 0 {
			to[i] = pick(s, "a", "z", "v10.") + strconv.Itoa(i)
		}
	}
	return from, to
}

// back returns the renaming that takes another one back.
func back(from, to []string) ([]string, []string) {
	names := make(map[string]string)
	for i := range from {
		names[to[i]] = from[i]
	}
	sorted := slices.Sorted(slices.Values(to))
	var old []string
	for _, name := range sorted {
		old = append(old, names[name])
	}
	return sorted, old
}

// P2.3
func TestLawRenamed(t *testing.T) {
	trials(t, func(s *source, sys api.System, e api.Expr, typ int, env api.Env) {
		// The expression is renamed along with a system that has it.
		sys.Eqs = append(sys.Eqs, api.Eq{Name: "z", Left: choice(op(api.Equal, e, e), num("0"), num("1")), Right: num("0")})
		from, to := s.renaming(sys)
		r, err := system.Rename(sys, from, to)
		if err != api.OK {
			t.Fatalf("Rename %v to %v: %d", from, to, err)
		}
		names := make(map[string]string)
		for i := range from {
			names[from[i]] = to[i]
		}
		moved := api.Env{Time: env.Time, Initial: env.Initial}
		for _, b := range env.Binds {
			if name, ok := names[b.Use.Name]; ok {
				b.Use.Name = name
			}
			if moved, err = system.Bind(moved, b.Use, b.Value); err != api.OK {
				t.Fatalf("Bind: %d", err)
			}
		}
		there := r.Eqs[len(r.Eqs)-1].Left.Kids[0].Kids[0]
		if got, want := eval(r, there, moved), eval(sys, e, env); got != want {
			t.Fatalf("Eval of %v, renamed = %v, before %v", e, got, want)
		}
		changed, original := back(from, to)
		old, err := system.Rename(r, changed, original)
		if err != api.OK || text(t, old) != text(t, sys) {
			t.Fatalf("Rename %v to %v, and back: %d", from, to, err)
		}
	})
}

// envOf returns an environment for all uses of a system.
func (s *source) envOf(t *testing.T, sys api.System) api.Env {
	t.Helper()
	uses, err := system.Uses(sys)
	if err != api.OK {
		t.Fatalf("Uses: %d", err)
	}
	return s.env(sys.Vars, uses)
}

// P2.4
func TestLawMerged(t *testing.T) {
	s := source(4)
	for range 1000 {
		a, b := s.system("v"), s.system(pick(&s, "w", "v'", "u", "v1"))
		whole, err := system.Merge(a, b)
		turned, e := system.Merge(b, a)
		if e != err {
			t.Fatalf("Merge: %d, turned %d", err, e)
		}
		if err == api.ErrName {
			continue // v and v1 may meet
		}
		if err != api.OK || text(t, whole) != text(t, turned) {
			t.Fatalf("Merge: %d, or another one turned", err)
		}
		env := s.envOf(t, whole)
		all, err := system.Residuals(whole, env)
		left, le := system.Residuals(a, env)
		right, re := system.Residuals(b, env)
		if le != api.OK || re != api.OK {
			if err == api.OK {
				t.Fatalf("Residuals of the whole, and errors of the parts: %d, %d", le, re)
			}
			continue
		}
		parts := make(map[string]string)
		for i, q := range a.Eqs {
			parts[q.Name] = left[i]
		}
		for i, q := range b.Eqs {
			parts[q.Name] = right[i]
		}
		for i, q := range whole.Eqs {
			if err != api.OK || len(parts) != len(all) || all[i] != parts[q.Name] {
				t.Fatalf("Residuals of the whole: %v, %d; of the parts: %v", all, err, parts)
			}
		}
	}
}

// P2.5: a text is read as the system that has it; one that is a little different is that of another one, or of none.
func TestLawText(t *testing.T) {
	s := source(5)
	others := 0
	for range 300 {
		sys := s.system("v")
		lines := text(t, sys)
		got, e := system.Read(lines)
		if e != api.OK || !reflect.DeepEqual(empty(got), empty(sys)) {
			t.Fatalf("Read of %q: %d", lines, e)
		}
		for range 30 {
			at := s.below(len(lines))
			put := pick(&s, "", " ", "\n", "0", "1", "'", ":", "@", ";", ")", "(", "/2", "-", "v10", "=", "1 ", lines[at:at+1]+lines[at:at+1])
			changed := lines[:at] + put + lines[at+s.below(2):]
			got, e := system.Read(changed)
			if e != api.OK {
				continue
			}
			if text(t, got) != changed {
				t.Fatalf("%q is read, and has the text %q", changed, text(t, got))
			}
			if changed != lines {
				others++
			}
		}
	}
	if others < 100 {
		t.Errorf("only %d of the changed texts are read", others)
	}
}

// empty returns a system whose empty lists are all nil.
func empty(s api.System) api.System {
	for _, list := range []*[]api.Eq{&s.Eqs, &s.Inits} {
		if len(*list) == 0 {
			*list = nil
		}
	}
	return s
}

// P2.6
func TestLawSorted(t *testing.T) {
	s := source(6)
	for range 300 {
		sys := s.system("v")
		want := text(t, sys)
		for range 4 {
			mixed := api.System{Vars: slices.Clone(sys.Vars), Eqs: slices.Clone(sys.Eqs), Inits: slices.Clone(sys.Inits), Whens: slices.Clone(sys.Whens)}
			got, e := system.Sorted(mixed)
			if e != api.OK || text(t, got) != want {
				t.Fatalf("Sorted of a valid system: %d", e)
			}
			shuffle(&s, mixed.Vars)
			shuffle(&s, mixed.Eqs)
			shuffle(&s, mixed.Inits)
			shuffle(&s, mixed.Whens)
			got, e = system.Sorted(mixed)
			if e != api.OK || text(t, got) != want {
				t.Fatalf("Sorted of a mixed system: %d", e)
			}
		}
	}
}

// P2.7
func TestLawHolds(t *testing.T) {
	s := source(7)
	seen := make(map[bool]int)
	for range 3000 {
		sys := s.system("v")
		if s.below(3) == 0 { // some that hold
			for i, q := range sys.Eqs {
				sys.Eqs[i].Right = add(q.Left, num("0"))
			}
		}
		env := s.envOf(t, sys)
		list, err := system.Residuals(sys, env)
		holds, e := system.Holds(sys, env)
		if e != err {
			t.Fatalf("Holds: %d, Residuals: %d", e, err)
		}
		if err != api.OK {
			continue
		}
		zeros := !slices.ContainsFunc(list, func(a string) bool { return a != "0" })
		if len(list) != len(sys.Eqs) || holds != zeros {
			t.Fatalf("Holds = %t, Residuals = %s", holds, strings.Join(list, ", "))
		}
		for i, q := range sys.Eqs {
			if got := eval(sys, sub(q.Left, q.Right), env); got.value != list[i] {
				t.Fatalf("the residual %s is evaluated to %v", list[i], got)
			}
		}
		if len(list) > 0 {
			seen[holds]++
		}
	}
	if seen[true] < 100 || seen[false] < 100 {
		t.Errorf("the trials are too much alike: %v", seen)
	}
}

// Uses are those of all expressions together, in order, each one once.
func TestLawUses(t *testing.T) {
	s := source(8)
	for range 300 {
		sys := s.system("v")
		all := make(map[api.Use]bool)
		gather := func(e api.Expr) {
			for _, u := range usesOf(t, e) {
				all[u] = true
			}
		}
		for _, q := range slices.Concat(sys.Eqs, sys.Inits) {
			gather(q.Left)
			gather(q.Right)
		}
		for _, w := range sys.Whens {
			gather(w.Cond)
			for _, a := range w.Acts {
				gather(a.Value)
			}
		}
		uses, e := system.Uses(sys)
		if e != api.OK || len(uses) != len(all) {
			t.Fatalf("Uses = %v, %d; want %v", uses, e, all)
		}
		for i, u := range uses {
			if !all[u] || i > 0 && !before(uses[i-1], u) {
				t.Fatalf("Uses = %v: %v is wrong there", uses, u)
			}
		}
	}
}

// before reports whether a use comes before another one.
func before(a, b api.Use) bool {
	if a.Name != b.Name {
		return a.Name < b.Name
	}
	if a.Pre != b.Pre {
		return b.Pre
	}
	return a.Order < b.Order
}

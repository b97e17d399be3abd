package system_test

import (
	"slices"
	"strings"
	"testing"

	"linkwork/api"
	"linkwork/system"
)

func TestType(t *testing.T) {
	one := num("1")
	for _, c := range []struct {
		e    api.Expr
		want int
		we   api.Errno
	}{
		{one, api.Number, api.OK}, {truth(true), api.Truth, api.OK}, {truth(false), api.Truth, api.OK}, {op(api.Time), api.Number, api.OK},
		{op(api.Initial), api.Truth, api.OK}, {op(api.Sample, one, one), api.Truth, api.OK}, {op(api.Sample, num("-1/2"), num("1/2")), api.Truth, api.OK},
		{ref("k"), api.Number, api.OK}, {ref("lock"), api.Truth, api.OK}, {ref("n"), api.Number, api.OK}, {pre("on"), api.Truth, api.OK}, {pre("x"), api.Number, api.OK},
		{der("x", 6), api.Number, api.OK}, {der("u", 1), api.Number, api.OK},
		{neg(one), api.Number, api.OK}, {add(one, one), api.Number, api.OK}, {sub(one, one), api.Number, api.OK}, {mul(one, one), api.Number, api.OK}, {div(one, num("0")), api.Number, api.OK},
		{choice(ref("on"), one, one), api.Number, api.OK}, {choice(ref("on"), ref("on"), ref("lock")), api.Truth, api.OK},
		{op(api.Less, one, one), api.Truth, api.OK}, {op(api.AtMost, one, one), api.Truth, api.OK}, {op(api.More, one, one), api.Truth, api.OK}, {op(api.AtLeast, one, one), api.Truth, api.OK},
		{op(api.Equal, one, one), api.Truth, api.OK}, {op(api.Unequal, ref("on"), ref("on")), api.Truth, api.OK},
		{op(api.And, ref("on"), ref("on")), api.Truth, api.OK}, {op(api.Or, ref("on"), ref("on")), api.Truth, api.OK}, {op(api.Not, ref("on")), api.Truth, api.OK},
		{deep(24), api.Number, api.OK}, {wide(200), api.Number, api.OK}, {deep(25), 0, api.ErrSize}, {wide(201), 0, api.ErrSize}, {endless(), 0, api.ErrSize},
		{api.Expr{Op: "none", Kids: make([]api.Expr, 200)}, 0, api.ErrSize}, {api.Expr{Op: "none", Kids: make([]api.Expr, 199)}, 0, api.ErrForm},
		{ref("z"), 0, api.ErrForm}, {pre("z"), 0, api.ErrForm}, {der("k", 1), 0, api.ErrForm}, {der("n", 1), 0, api.ErrForm}, {der("x", 7), 0, api.ErrForm},
		{api.Expr{}, 0, api.ErrForm}, {neg(ref("on")), 0, api.ErrForm}, {op(api.Not, ref("x")), 0, api.ErrForm}, {choice(ref("on"), ref("on"), one), 0, api.ErrForm},
		{op(api.Equal, ref("on"), one), 0, api.ErrForm}, {op(api.Sample, one, num("0")), 0, api.ErrForm},
	} {
		if got, e := system.Type(plant(), c.e); got != c.want || e != c.we {
			t.Errorf("Type of %v = %d, %d; want %d, %d", c.e, got, e, c.want, c.we)
		}
	}
}

// evaluation is an expression with its value in the environment of the plant.
type evaluation struct {
	e    api.Expr
	want string
	we   api.Errno
}

func checkEval(t *testing.T, env api.Env, list []evaluation) {
	t.Helper()
	for _, c := range list {
		if got, e := system.Eval(plant(), c.e, env); got != c.want || e != c.we {
			text, _ := system.Show(c.e)
			t.Errorf("Eval of %.200s = %q, %d; want %q, %d", text, got, e, c.want, c.we)
		}
	}
}

func TestEval(t *testing.T) {
	two, three, yes, no := num("2"), num("3"), truth(true), truth(false)
	checkEval(t, instant(), []evaluation{
		{num("-7/3"), "-7/3", api.OK}, {num(nines), nines, api.OK}, {yes, "true", api.OK}, {no, "false", api.OK}, {op(api.Time), "3/2", api.OK}, {op(api.Initial), "false", api.OK},
		{ref("k"), "-3/2", api.OK}, {ref("lock"), "false", api.OK}, {ref("n"), "4", api.OK}, {pre("n"), "3", api.OK}, {ref("on"), "true", api.OK}, {pre("on"), "false", api.OK},
		{ref("x"), "2", api.OK}, {der("x", 1), "-1", api.OK}, {der("x", 2), "3", api.OK}, {pre("x"), "9", api.OK}, {der("u", 1), "5", api.OK},
		{neg(two), "-2", api.OK}, {neg(num("-1/2")), "1/2", api.OK}, {neg(num("0")), "0", api.OK},
		{add(two, three), "5", api.OK}, {sub(two, three), "-1", api.OK}, {mul(two, three), "6", api.OK}, {div(two, three), "2/3", api.OK}, {div(three, num("-6")), "-1/2", api.OK},
		{sub(two, two), "0", api.OK}, {mul(two, num("0")), "0", api.OK}, {div(num("0"), two), "0", api.OK}, {add(num("1/2"), num("1/6")), "2/3", api.OK},
		{choice(yes, two, three), "2", api.OK}, {choice(no, two, three), "3", api.OK}, {choice(yes, no, yes), "false", api.OK}, {choice(no, no, yes), "true", api.OK},
		{op(api.Less, two, three), "true", api.OK}, {op(api.Less, two, two), "false", api.OK}, {op(api.Less, three, two), "false", api.OK},
		{op(api.AtMost, two, three), "true", api.OK}, {op(api.AtMost, two, two), "true", api.OK}, {op(api.AtMost, three, two), "false", api.OK},
		{op(api.More, two, three), "false", api.OK}, {op(api.More, two, two), "false", api.OK}, {op(api.More, three, two), "true", api.OK},
		{op(api.AtLeast, two, three), "false", api.OK}, {op(api.AtLeast, two, two), "true", api.OK}, {op(api.AtLeast, three, two), "true", api.OK},
		{op(api.Less, num("-1/2"), num("-1/3")), "true", api.OK}, {op(api.Less, num("2/3"), num("3/4")), "true", api.OK},
		{op(api.Equal, two, div(num("4"), two)), "true", api.OK}, {op(api.Equal, two, neg(two)), "false", api.OK}, {op(api.Equal, yes, yes), "true", api.OK}, {op(api.Equal, no, no), "true", api.OK}, {op(api.Equal, no, yes), "false", api.OK},
		{op(api.Unequal, two, two), "false", api.OK}, {op(api.Unequal, two, three), "true", api.OK}, {op(api.Unequal, yes, yes), "false", api.OK}, {op(api.Unequal, yes, no), "true", api.OK},
		{op(api.And, yes, yes), "true", api.OK}, {op(api.And, yes, no), "false", api.OK}, {op(api.And, no, yes), "false", api.OK}, {op(api.And, no, no), "false", api.OK},
		{op(api.Or, yes, yes), "true", api.OK}, {op(api.Or, yes, no), "true", api.OK}, {op(api.Or, no, yes), "true", api.OK}, {op(api.Or, no, no), "false", api.OK},
		{op(api.Not, yes), "false", api.OK}, {op(api.Not, no), "true", api.OK}, {div(two, num("0")), "", api.ErrZero}, {div(num("0"), sub(two, two)), "", api.ErrZero},
		{ref("y"), "3/2", api.OK}, {der("y", 1), "", api.ErrNone}, {pre("y"), "", api.ErrNone}, {pre("u"), "", api.ErrNone}, {der("x", 3), "", api.ErrNone}, {pre("lock"), "", api.ErrNone},
		{deep(24), "-1", api.OK}, {deep(23), "1", api.OK},
	})
	env := instant()
	env.Initial = true
	checkEval(t, env, []evaluation{{op(api.Initial), "true", api.OK}, {op(api.Time), "3/2", api.OK}})
}

func TestEvalSample(t *testing.T) {
	for _, c := range []struct{ time, first, step, want string }{
		{"3/2", "0", "1/2", "true"}, {"0", "0", "1/2", "true"}, {"-1/2", "0", "1/2", "false"}, {"1/4", "0", "1/2", "false"},
		{"1", "1", "7", "true"}, {"8", "1", "7", "true"}, {"7", "1", "7", "false"}, {"-6", "1", "7", "false"}, {"0", "1", "1", "false"},
		{"-3", "-5", "2/3", "true"}, {"-3", "-5", "3/4", "false"}, {"-5", "-5", "3", "true"}, {"-6", "-5", "1", "false"},
		{"1/2", "1/3", "1/6", "true"}, {"1/2", "1/3", "1/7", "false"}, {nines, "0", nines, "true"}, {nines, "-" + nines, nines, "true"},
		{nines, "1/" + nines, "1/" + nines, "true"}, {"1/" + nines, "-1", nines, "false"},
	} {
		got, e := system.Eval(api.System{}, op(api.Sample, num(c.first), num(c.step)), api.Env{Time: c.time})
		if got != c.want || e != api.OK {
			t.Errorf("sample(%.9s, %.9s) at %.9s = %q, %d", c.first, c.step, c.time, got, e)
		}
	}
}

// What is evaluated first has the first error; what is not needed is not evaluated.
func TestEvalOrder(t *testing.T) {
	zero, none, wrong := div(num("1"), num("0")), der("y", 1), ref("k")
	no, yes := op(api.Less, ref("x"), num("0")), op(api.More, ref("x"), num("0"))
	badTruth := op(api.Less, none, num("1"))
	env := instant()
	env.Binds[1].Value = "true" // of k
	checkEval(t, env, []evaluation{
		{wrong, "", api.ErrType}, {add(wrong, none), "", api.ErrType}, {add(none, wrong), "", api.ErrNone}, {add(zero, none), "", api.ErrZero}, {add(none, zero), "", api.ErrNone},
		{add(zero, wrong), "", api.ErrZero}, {div(none, num("0")), "", api.ErrNone}, {div(num("1"), none), "", api.ErrNone}, {div(zero, none), "", api.ErrZero}, {div(wrong, num("0")), "", api.ErrType},
		{mul(num("0"), none), "", api.ErrNone}, {neg(zero), "", api.ErrZero}, {op(api.Equal, none, zero), "", api.ErrNone}, {op(api.Less, zero, none), "", api.ErrZero},
		{op(api.Unequal, wrong, none), "", api.ErrType}, {op(api.Not, badTruth), "", api.ErrNone},
		{choice(yes, num("1"), zero), "1", api.OK}, {choice(no, zero, num("1")), "1", api.OK}, {choice(yes, zero, none), "", api.ErrZero}, {choice(no, zero, none), "", api.ErrNone},
		{choice(badTruth, num("1"), zero), "", api.ErrNone}, {op(api.And, no, badTruth), "false", api.OK}, {op(api.And, yes, badTruth), "", api.ErrNone},
		{op(api.And, badTruth, no), "", api.ErrNone}, {op(api.Or, yes, badTruth), "true", api.OK}, {op(api.Or, no, badTruth), "", api.ErrNone}, {op(api.Or, badTruth, yes), "", api.ErrNone},
	})
	env.Binds[2].Value = "0" // of lock
	env.Binds[5].Value = "1" // of on
	checkEval(t, env, []evaluation{
		{ref("lock"), "", api.ErrType}, {ref("on"), "", api.ErrType}, {pre("on"), "false", api.OK}, {choice(ref("on"), zero, none), "", api.ErrType},
		{op(api.And, pre("on"), ref("on")), "false", api.OK}, {op(api.Or, pre("on"), ref("on")), "", api.ErrType},
	})
}

// R7: only the result may not have too many digits.
func TestEvalLong(t *testing.T) {
	square := mul(num(tall), num(tall))
	tower := num("1/" + nines)
	for range 5 {
		tower = mul(tower, tower)
	}
	terms := make([]api.Expr, 24)
	for i := range terms {
		terms[i] = div(num("1"), num(tall[:200-i]+"7"))
	}
	checkEval(t, instant(), []evaluation{
		{num(nines), nines, api.OK}, {add(num(nines), num("1")), "", api.ErrSize}, {sub(add(num(nines), num("1")), num("1")), nines, api.OK},
		{square, "", api.ErrSize}, {sub(square, square), "0", api.OK}, {div(square, num(tall)), tall, api.OK}, {div(num("1"), square), "", api.ErrSize},
		{div(add(square, num(tall)), num(tall)), tall[:200] + "1", api.OK}, {sub(add(square, num("1/3")), square), "1/3", api.OK},
		{div(num("1"), sub(square, square)), "", api.ErrZero}, {op(api.Less, square, add(square, num("1"))), "true", api.OK}, {op(api.Equal, square, add(square, num("1"))), "false", api.OK},
		{op(api.Equal, square, mul(num(tall), num(tall))), "true", api.OK}, {choice(op(api.More, neg(square), square), square, num("5")), "5", api.OK},
		{tower, "", api.ErrSize}, {op(api.More, tower, num("0")), "true", api.OK}, {op(api.AtMost, tower, num("0")), "false", api.OK}, {div(tower, tower), "1", api.OK},
		{sum(terms...), "", api.ErrSize}, {sub(sum(terms...), sum(reversed(terms)...)), "0", api.OK},
		{add(mul(num(tall), num(tall)), div(num("1"), num("0"))), "", api.ErrZero}, {add(mul(num(tall), num(tall)), der("y", 1)), "", api.ErrNone},
	})
}

// sum returns the sum of at least one expression, by halves.
func sum(list ...api.Expr) api.Expr {
	if len(list) == 1 {
		return list[0]
	}
	return add(sum(list[:len(list)/2]...), sum(list[len(list)/2:]...))
}

func reversed(list []api.Expr) []api.Expr {
	list = slices.Clone(list)
	slices.Reverse(list)
	return list
}

// environments are changes of an environment that make it malformed, or too large, and what functions return for it.
func environments() map[api.Errno][]change[api.Env] {
	set := func(at int, b api.Bind) change[api.Env] {
		return change[api.Env]{b.Use.Name + " = " + b.Value, func(env *api.Env) { env.Binds[at] = b }}
	}
	many := func(count int) change[api.Env] {
		return change[api.Env]{"many binds", func(env *api.Env) {
			env.Time = "none"
			for _, name := range numbered("z", count-len(env.Binds)) {
				env.Binds = append(env.Binds, bind(name, 0, false, "1/1"))
			}
		}}
	}
	return map[api.Errno][]change[api.Env]{
		api.ErrForm: {
			{"no time", func(env *api.Env) { env.Time = "" }}, {"the time true", func(env *api.Env) { env.Time = "true" }}, {"the time 2/4", func(env *api.Env) { env.Time = "2/4" }},
			{"the time 301 nines", func(env *api.Env) { env.Time = nines + "9" }},
			set(0, bind("", 0, false, "1")), set(0, bind("0", 0, false, "1")), set(0, bind("a b", 0, false, "1")), set(0, bind("a"+strings.Repeat("a", 80), 0, false, "1")),
			set(0, bind("a", -1, false, "1")), set(0, bind("a", 7, false, "1")), set(0, bind("a", 1, true, "1")), set(0, bind("a", -1, true, "1")),
			set(0, bind("a", 0, false, "")), set(0, bind("a", 0, false, "01")), set(0, bind("a", 0, false, "TRUE")), set(0, bind("a", 0, false, nines+"9")),
			set(0, bind("k", 0, false, "1")), set(1, bind("a", 0, false, "1")), set(1, bind("z", 0, false, "1")), set(4, bind("n", 0, false, "1")),
			set(3, bind("n", 0, true, "1")), set(7, bind("u", 2, false, "1")), set(7, bind("u", 0, true, "1")), set(10, bind("x", 0, true, "1")), set(10, bind("x", 3, false, "1")), many(api.MaxBinds),
		},
		api.ErrSize: {many(api.MaxBinds + 1)},
	}
}

func TestEnvironments(t *testing.T) {
	for want, list := range environments() {
		for _, c := range list {
			env := instant()
			c.do(&env)
			if v, e := system.Eval(plant(), div(num("1"), num("0")), env); v != "" || e != want {
				t.Errorf("%s: Eval = %q, %d; want %d", c.name, v, e, want)
			}
			if l, e := system.Residuals(plant(), env); len(l) > 0 || e != want {
				t.Errorf("%s: Residuals = %v, %d; want %d", c.name, l, e, want)
			}
			if ok, e := system.Holds(plant(), env); ok || e != want {
				t.Errorf("%s: Holds = %t, %d; want %d", c.name, ok, e, want)
			}
			if got, e := system.Bind(env, api.Use{}, ""); got.Time != "" || len(got.Binds) > 0 || e != want {
				t.Errorf("%s: Bind = %v, %d; want %d", c.name, got, e, want)
			}
			// What is wrong with the expression comes first.
			if v, e := system.Eval(plant(), deep(25), env); v != "" || e != api.ErrSize {
				t.Errorf("%s: Eval of what is too large = %q, %d", c.name, v, e)
			}
			if v, e := system.Eval(plant(), ref("z"), env); v != "" || e != api.ErrForm {
				t.Errorf("%s: Eval of an unknown name = %q, %d", c.name, v, e)
			}
		}
	}
	most := instant()
	for _, name := range numbered("z", api.MaxBinds-len(most.Binds)) {
		most.Binds = append(most.Binds, bind(name, 6, false, "true"))
	}
	if v, e := system.Eval(plant(), der("x", 2), most); v != "3" || e != api.OK {
		t.Errorf("Eval with %d binds = %q, %d", len(most.Binds), v, e)
	}
}

func TestResiduals(t *testing.T) {
	s := read(t, "var a continuous number", "var b continuous number", "var l discrete truth",
		"eq e1 @a @b", "eq e2 mul(@a;@b) 6", "eq e3 if(@l;@a:';div(1;sub(@b;3))) 0", "init i div(1;0) pre@a")
	env := func(a, b, l string) api.Env {
		return api.Env{Time: "0", Binds: []api.Bind{bind("a", 0, false, a), bind("a", 1, false, "0"), bind("a'", 0, false, "9"), bind("b", 0, false, b), bind("l", 0, false, l)}}
	}
	short := env("1", "1", "true")
	short.Binds = short.Binds[1:]
	apart := env("1", "1", "true")
	apart.Binds[1].Value = "false"
	for _, c := range []struct {
		name string
		env  api.Env
		want []string
		e    api.Errno
	}{
		{"in which all differ", env("2", "5/2", "false"), []string{"-1/2", "-1", "-2"}, api.OK},
		{"in which one differs", env("2", "3", "true"), []string{"-1", "0", "0"}, api.OK},
		{"with numbers that are too long", env(nines, "-1", "true"), nil, api.ErrSize},
		{"with a square that is too long", env(tall, tall, "true"), nil, api.ErrSize},
		{"with an error behind numbers that are too long", env(nines, "3", "false"), nil, api.ErrZero},
		{"with an error", env("0", "3", "false"), nil, api.ErrZero},
		{"without a value", short, nil, api.ErrNone},
		{"without values", api.Env{Time: "0"}, nil, api.ErrNone},
		{"with a truth for a number", apart, nil, api.ErrType},
		{"with a number for a truth", env("2", "3", "1"), nil, api.ErrType},
	} {
		got, e := system.Residuals(s, c.env)
		if !slices.Equal(got, c.want) || e != c.e {
			t.Errorf("Residuals of an environment %s = %v, %d; want %v, %d", c.name, got, e, c.want, c.e)
		}
	}
	if got, e := system.Residuals(api.System{}, api.Env{Time: "0"}); len(got) != 0 || e != api.OK {
		t.Errorf("Residuals of no equations = %v, %d", got, e)
	}
}

// The Left side is evaluated before the Right one, and each equation before the next one.
func TestResidualsOrder(t *testing.T) {
	for want, lines := range map[api.Errno][]string{
		api.ErrZero: {"eq e1 div(1;0) @x", "eq e2 @x @x"},
		api.ErrNone: {"eq e1 @x div(1;0)", "eq e2 div(1;0) 0"},
	} {
		s := read(t, append([]string{"var x continuous number"}, lines...)...)
		if _, e := system.Residuals(s, api.Env{Time: "0"}); e != want {
			t.Errorf("Residuals = %d, want %d", e, want)
		}
		if _, e := system.Holds(s, api.Env{Time: "0"}); e != want {
			t.Errorf("Holds = %d, want %d", e, want)
		}
	}
}

func TestHolds(t *testing.T) {
	s := read(t, "var a continuous number", "var b continuous number", "eq e1 mul(@a;@a) mul(@b;@b)", "eq e2 div(1;@a) div(1;@b)", "init i @a 0")
	env := func(a, b string) api.Env {
		return api.Env{Time: "0", Binds: []api.Bind{bind("a", 0, false, a), bind("b", 0, false, b)}}
	}
	for _, c := range []struct {
		a, b string
		want bool
		e    api.Errno
	}{
		{"2", "2", true, api.OK}, {"2", "-2", false, api.OK}, {"-2/3", "-2/3", true, api.OK}, {"2", "3", false, api.OK},
		{nines, nines, true, api.OK}, {nines, "1/" + nines, false, api.OK}, {tall, "-" + tall, false, api.OK}, // whose residuals are too long
		{"0", "1", false, api.ErrZero}, {nines, "0", false, api.ErrZero}, {"true", "1", false, api.ErrType},
	} {
		if got, e := system.Holds(s, env(c.a, c.b)); got != c.want || e != c.e {
			t.Errorf("Holds with %.9s, %.9s = %t, %d; want %t, %d", c.a, c.b, got, e, c.want, c.e)
		}
	}
	if got, e := system.Holds(s, api.Env{Time: "0"}); got || e != api.ErrNone {
		t.Errorf("Holds without values = %t, %d", got, e)
	}
	if got, e := system.Holds(api.System{}, api.Env{Time: "0"}); !got || e != api.OK {
		t.Errorf("Holds of no equations = %t, %d", got, e)
	}
}

package rows_test

import (
	"reflect"
	"slices"
	"strconv"
	"strings"
	"testing"

	"linkwork/api"
	"linkwork/system"
)

// vars are the variables of the tests: x, y and z are Continuous, u is an Input, n a discrete number,
// on a discrete truth, k a number and lock a truth that are given.
const vars = `var k param number value=3
var lock param truth value=true
var n discrete number
var on discrete truth
var u input number
var x continuous number
var y continuous number
var z continuous number
`

var (
	nines = strings.Repeat("9", api.MaxDigits) // the greatest integer that is a number
	tall  = "1" + strings.Repeat("0", 200)     // its square is no number
)

// plant is the system with the variables of the tests, and lines more.
func plant(t *testing.T, lines ...string) api.System {
	t.Helper()
	s, err := system.Read(vars + strings.Join(append(lines, ""), "\n"))
	if err != api.OK {
		t.Fatalf("Read of %q: %d", lines, err)
	}
	return s
}

// expr returns the expression of the plant that has a text.
func expr(t *testing.T, text string) api.Expr {
	t.Helper()
	if s, err := system.Read(vars + "eq e " + text + " 0\n"); err == api.OK {
		return s.Eqs[0].Left
	}
	return plant(t, "eq e if("+text+";0;0) 0").Eqs[0].Left.Kids[0]
}

func show(t *testing.T, e api.Expr) string {
	t.Helper()
	text, err := system.Show(e)
	if err != api.OK {
		t.Fatalf("Show of %v: %d", e, err)
	}
	return text
}

// shown returns the text of an expression that a function returned: of the zero value none.
func shown(t *testing.T, e api.Expr) string {
	t.Helper()
	if reflect.DeepEqual(e, api.Expr{}) {
		return ""
	}
	return show(t, e)
}

func use(name string, order int) api.Use {
	return api.Use{Name: name, Order: order}
}

// at returns the environment with a time, and with binds that are written as a var or a pre, `=`, and the value.
func at(t *testing.T, time string, binds ...string) api.Env {
	t.Helper()
	env := api.Env{Time: time}
	for _, b := range binds {
		text, value, _ := strings.Cut(b, "=")
		uses, _ := system.Of(expr(t, text))
		var err api.Errno
		if env, err = system.Bind(env, uses[0], value); err != api.OK {
			t.Fatalf("Bind of %s: %d", b, err)
		}
	}
	return env
}

func op(name string, kids ...api.Expr) api.Expr {
	return api.Expr{Op: name, Kids: kids}
}

func num(text string) api.Expr {
	return api.Expr{Op: api.Num, Text: text}
}

func ref(name string, order int) api.Expr {
	return api.Expr{Op: api.Ref, Text: name, Order: order}
}

func truth(b bool) api.Expr {
	return op(strconv.FormatBool(b))
}

// chain returns an expression inside that many operators, each with it as the first kid, and others behind it.
func chain(count int, e api.Expr, name string, behind ...api.Expr) api.Expr {
	for range count {
		e = op(name, append([]api.Expr{e}, behind...)...)
	}
	return e
}

// total returns the sum of at least one expression, by halves.
func total(list ...api.Expr) api.Expr {
	if len(list) == 1 {
		return list[0]
	}
	return op(api.Add, total(list[:len(list)/2]...), total(list[len(list)/2:]...))
}

// endless is an expression that has itself as its kid.
func endless() api.Expr {
	kids := make([]api.Expr, 1)
	e := api.Expr{Op: api.Neg, Kids: kids}
	kids[0] = e
	return e
}

// checkMemory checks that no two of the kids in expressions are in the same place.
func checkMemory(t *testing.T, list ...api.Expr) {
	t.Helper()
	seen := make(map[*api.Expr]bool)
	var visit func(kids []api.Expr)
	visit = func(kids []api.Expr) {
		for i := range kids {
			if seen[&kids[i]] {
				t.Errorf("%s is in two places", show(t, kids[i]))
			}
			seen[&kids[i]] = true
			visit(kids[i].Kids)
		}
	}
	visit(list)
}

// malformed are expressions that are none of the plant, by the errors that functions return for them.
func malformed() map[api.Errno][]api.Expr {
	x := ref("x", 0)
	return map[api.Errno][]api.Expr{
		api.ErrSize: {chain(24, x, api.Neg), total(slices.Repeat([]api.Expr{x}, 101)...), endless()},
		api.ErrForm: {
			{}, ref("w", 0), ref("x", 7), ref("x", -1), ref("n", 1), ref("", 0), num("2/4"), op(api.Add, x), op(api.Neg, truth(true)),
			op(api.Less, x, ref("on", 0)), {Op: api.Pre, Text: "x", Order: 1}, op(api.Sample, num("0"), num("0")),
		},
	}
}

// unfit are systems that are not valid, or too large, by the errors that functions return for them.
func unfit(t *testing.T) map[api.Errno]api.System {
	mixed := plant(t, "eq e @x 0")
	mixed.Vars[0], mixed.Vars[1] = mixed.Vars[1], mixed.Vars[0]
	large := plant(t, "eq e @x 0")
	large.Eqs[0].Left = malformed()[api.ErrSize][0]
	return map[api.Errno]api.System{api.ErrForm: mixed, api.ErrSize: large}
}

// checkForms checks that a function returns the errors of Type of chapter 2, those of the system first.
func checkForms(t *testing.T, name string, call func(s api.System, e api.Expr) (api.Expr, api.Errno)) {
	t.Helper()
	check := func(want api.Errno, s api.System, e api.Expr) {
		t.Helper()
		if got, err := call(s, e); err != want || got.Op != "" {
			t.Errorf("%s of an expression with %q = %v, %d; want %d", name, e.Op, got, err, want)
		}
	}
	for want, s := range unfit(t) {
		check(want, s, endless())
		check(want, s, api.Expr{})
	}
	for want, list := range malformed() {
		for _, e := range list {
			check(want, plant(t), e)
		}
	}
}

// badEnvs are environments that are not valid, or too large, by the errors that functions return for them.
func badEnvs() map[api.Errno][]api.Env {
	many := api.Env{Time: "none"}
	for i := range api.MaxBinds + 1 {
		many.Binds = append(many.Binds, api.Bind{Use: use("x"+strconv.Itoa(10000+i), 0), Value: "1"})
	}
	x := api.Bind{Use: use("x", 0), Value: "1"}
	return map[api.Errno][]api.Env{
		api.ErrSize: {many},
		api.ErrForm: {{}, {Time: "2/2"}, {Time: "0", Binds: []api.Bind{x, x}}, {Time: "0", Binds: []api.Bind{{Use: use("x", 7), Value: "1"}}}, {Time: "0", Binds: []api.Bind{{Use: x.Use, Value: "one"}}}},
	}
}

package measure_test

import (
	"slices"
	"strconv"
	"strings"
	"testing"

	"linkwork/api"
	"linkwork/rat"
	"linkwork/system"
)

var nines = strings.Repeat("9", api.MaxDigits) // the greatest integer that is a number

// model is the system with variables, which are written with blanks between, and lines of equations and so on.
// A variable is its name, which must rise, with `:` and its unit, if that is given. That of the Kind Discrete has `#`,
// a Discrete truth `?`, a Param `=`, an Input `!` before its name, all others are Continuous.
func model(t *testing.T, vars string, lines ...string) api.System {
	t.Helper()
	kinds := map[byte]string{'#': "discrete number", '?': "discrete truth", '=': "param number value=1", '!': "input number"}
	text := ""
	for _, v := range strings.Fields(vars) {
		kind, special := kinds[v[0]]
		if special {
			v = v[1:]
		} else {
			kind = "continuous number"
		}
		name, unit, given := strings.Cut(v, ":")
		text += "var " + name + " " + kind
		if given {
			text += " unit=" + unit
		}
		text += "\n"
	}
	for _, line := range lines {
		if line != "" {
			text += line + "\n"
		}
	}
	s, err := system.Read(text)
	if err != api.OK {
		t.Fatalf("Read of %q, %q: %d", vars, lines, err)
	}
	return s
}

// expr returns an expression that has a text, over variables as model has them.
func expr(t *testing.T, vars, text string) api.Expr {
	t.Helper()
	return model(t, vars, "eq e if(equal("+text+";"+text+");0;0) 0").Eqs[0].Left.Kids[0].Kids[0]
}

func show(t *testing.T, e api.Expr) string {
	t.Helper()
	text, err := system.Show(e)
	if err != api.OK {
		t.Fatalf("Show of %v: %d", e, err)
	}
	return text
}

func text(t *testing.T, s api.System) string {
	t.Helper()
	text, err := system.Text(s)
	if err != api.OK {
		t.Fatalf("Text: %d", err)
	}
	return text
}

func op(name string, kids ...api.Expr) api.Expr {
	return api.Expr{Op: name, Kids: kids}
}

func num(text string) api.Expr {
	return api.Expr{Op: api.Num, Text: text}
}

func ref(name string, order int) api.Expr {
	return api.Expr{Op: api.Ref, Text: name, Order: order}
}

// at returns an environment with a time, and with binds as a var or a pre, `=`, and the value, over variables.
func at(t *testing.T, vars, time string, binds ...string) api.Env {
	t.Helper()
	env := api.Env{Time: time}
	for _, b := range binds {
		text, value, _ := strings.Cut(b, "=")
		uses, err := system.Of(expr(t, vars, text))
		if err == api.OK {
			env, err = system.Bind(env, uses[0], value)
		}
		if err != api.OK {
			t.Fatalf("Bind of %s: %d", b, err)
		}
	}
	return env
}

// values returns the Time of an environment, and the values of its binds, with blanks between.
func values(env api.Env) string {
	list := []string{env.Time}
	for _, b := range env.Binds {
		list = append(list, b.Value)
	}
	return strings.Join(list, " ")
}

// endless is an expression that has itself as its kid.
func endless() api.Expr {
	kids := make([]api.Expr, 1)
	e := api.Expr{Op: api.Neg, Kids: kids}
	kids[0] = e
	return e
}

// unfit are systems that are not valid, or too large, by the errors that functions return for them. Their units
// contradict each other.
func unfit(t *testing.T) map[api.Errno]api.System {
	mixed := model(t, "x:m y:s", "eq e @x @y")
	mixed.Vars[0], mixed.Vars[1] = mixed.Vars[1], mixed.Vars[0]
	large := model(t, "x:m y:s", "eq e @x @y")
	large.Eqs = append(large.Eqs, api.Eq{Name: "f", Left: endless(), Right: endless()})
	return map[api.Errno]api.System{api.ErrForm: mixed, api.ErrSize: large}
}

// named returns names that rise.
func named(prefix string, count int) []string {
	list := make([]string, count)
	for i := range list {
		list[i] = prefix + strconv.Itoa(1000+i)
	}
	return list
}

// times returns the product of at least one expression, by halves.
func times(list ...api.Expr) api.Expr {
	if len(list) == 1 {
		return list[0]
	}
	half := len(list) / 2
	return op(api.Mul, times(list[:half]...), times(list[half:]...))
}

// source is a row of numbers that look random and are the same in every run.
type source uint64

func (s *source) below(n int) int {
	*s = *s*6364136223846793005 + 1442695040888963407
	return int(uint64(*s) >> 33 % uint64(n))
}

func pick[T any](s *source, list ...T) T {
	return list[s.below(len(list))]
}

// shuffled returns a list in another order.
func shuffled[T any](s *source, list []T) []T {
	list = slices.Clone(list)
	for i := range list {
		j := i + s.below(len(list)-i)
		list[i], list[j] = list[j], list[i]
	}
	return list
}

// power returns the power of a number, which has as many digits as it has.
func power(base string, exponent int) string {
	value := "1"
	for range exponent {
		value, _ = rat.Mul(value, base)
	}
	return value
}

// fraction returns a quotient.
func fraction(num, den string) string {
	value, _ := rat.Div(num, den)
	return value
}

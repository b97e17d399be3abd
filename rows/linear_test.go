package rows_test

import (
	"slices"
	"strconv"
	"strings"
	"testing"

	"linkwork/api"
	"linkwork/rows"
)

func TestIsLinear(t *testing.T) {
	s := plant(t)
	for _, c := range []struct {
		unknowns []api.Use
		linear   []string
		others   []string
	}{
		{[]api.Use{use("x", 0), use("y", 0)}, []string{
			"1", "@x", "@z", "@x:'", "pre@x", "time", "neg(@x)", "add(@x;@y)", "sub(@x;3)", "mul(@x;@x:')", "mul(@z;@y)", "mul(@x;0)", "mul(mul(@x;2);time)", "mul(pre@x;@x)",
			"div(@x;@z)", "div(1;@z)", "div(@x;0)", "div(add(@x;@y);pre@x)", "if(less(@z;1);@x;@y)", "if(less(pre@x;1);mul(2;@x);3)", "if(@on;1;2)", "mul(if(@on;@z;1);@x)", "div(1;div(1;@z))",
		}, []string{
			"mul(@x;@y)", "mul(@x;@x)", "mul(@x;sub(@x;@x))", "mul(neg(@x);add(1;@y))", "mul(if(@on;@x;1);@x)", "mul(mul(@x;@y);0)", "mul(0;mul(@x;@y))", "div(1;@x)", "div(@x;@x)", "div(0;mul(@x;0))", "div(mul(@x;@y);2)",
			"if(less(@x;1);2;3)", "if(equal(@x;@x);@x;@y)", "if(not(or(@on;more(1;@y)));0;0)", "if(@on;mul(@x;@y);0)", "if(true;0;mul(@x;@y))", "neg(mul(@x;@y))", "add(1;mul(@x;@y))", "sub(div(1;@x);1)", "if(false;div(1;@x);0)",
			"if(@on;if(atmost(@y;0);@z;@z);0)",
		}},
		{[]api.Use{use("x", 1)}, []string{"mul(@x;@x)", "mul(@x;@x:')", "div(@x:';@x)", "mul(@x:'';@x:')", "if(less(@x;0);@x:';0)"}, []string{"mul(@x:';@x:')", "div(@x;@x:')", "if(less(@x:';0);@x;0)"}},
		{nil, []string{"mul(@x;@y)", "div(1;@x)", "if(less(@x;1);2;3)", "@x", "div(@x;mul(@x;@x:'))"}, nil},
	} {
		for want, list := range map[bool][]string{true: c.linear, false: c.others} {
			for _, text := range list {
				if got, err := rows.IsLinear(s, expr(t, text), c.unknowns); got != want || err != api.OK {
					t.Errorf("IsLinear of %s in %v = %t, %d", text, c.unknowns, got, err)
				}
			}
		}
	}
}

func TestRow(t *testing.T) {
	s, x, y := plant(t), use("x", 0), use("y", 0)
	env := at(t, "3/2", "@k=3", "@lock=true", "@n=4", "pre@n=7", "@on=false", "@u=1/2", "@u:'=-5", "@x:'=9", "pre@x=11", "@z=0")
	for _, c := range []struct {
		text     string
		unknowns []api.Use
		want     string // the coefficients, and the constant
	}{
		{"add(mul(2;@x);sub(@y;3))", []api.Use{x, y}, "2 1 -3"}, {"@x", []api.Use{x, y}, "1 0 0"}, {"@y", []api.Use{x, y}, "0 1 0"}, {"7/2", []api.Use{x, y}, "0 0 7/2"}, {"7/2", nil, "7/2"},
		{"neg(@x)", []api.Use{x}, "-1 0"}, {"neg(sub(@x;5))", []api.Use{x}, "-1 5"}, {"sub(@y;@x)", []api.Use{x, y}, "-1 1 0"}, {"sub(@x;@x)", []api.Use{x}, "0 0"}, {"add(@x;add(@x;@x))", []api.Use{x}, "3 0"},
		{"mul(add(@x;1);3)", []api.Use{x}, "3 3"}, {"mul(3;add(@x;1))", []api.Use{x}, "3 3"}, {"mul(@z;add(@x;1))", []api.Use{x}, "0 0"}, {"mul(@k;@n)", []api.Use{x}, "0 12"}, {"div(sub(@x;7);2)", []api.Use{x}, "1/2 -7/2"}, {"div(0;@k)", nil, "0"},
		{"mul(time;@x)", []api.Use{x}, "3/2 0"}, {"mul(pre@n;sub(@x;@n))", []api.Use{x}, "7 -28"}, {"mul(@u:';@x)", []api.Use{x}, "-5 0"}, {"add(pre@x;@x:')", []api.Use{x}, "0 20"}, {"add(pre@x;@x:')", []api.Use{use("x", 1)}, "1 11"},
		{"mul(@x;@x:')", []api.Use{x}, "9 0"}, {"add(@x;mul(@x:'';8))", []api.Use{x, use("x", 1), use("x", 2)}, "1 0 8 0"},
		{"if(less(@z;1);@x;@y)", []api.Use{x, y}, "1 0 0"}, {"if(more(@z;1);@x;@y)", []api.Use{x, y}, "0 1 0"}, {"if(@lock;mul(2;@x);div(1;0))", []api.Use{x}, "2 0"}, {"if(and(@on;less(div(1;@z);0));div(1;@z);mul(6;@y))", []api.Use{y}, "6 0"},
		{"mul(if(sample(0;1/2);2;5);@x)", []api.Use{x}, "2 0"}, {"if(initial;@x;neg(@x))", []api.Use{x}, "-1 0"}, {"mul(2;if(equal(@k;3);@x;3))", []api.Use{x}, "2 0"}, {"mul(if(@on;5;@k);if(@on;@x;2))", []api.Use{x}, "0 6"},
		{"if(less(@n;pre@n);@x;0)", []api.Use{x}, "1 0"}, {"if(less(sub(@x:';pre@x);mul(@u;@u:'));@x;@y)", []api.Use{x, y}, "0 1 0"},
	} {
		coeffs, constant, err := rows.Row(s, expr(t, c.text), c.unknowns, env)
		if got := strings.Join(append(coeffs, constant), " "); got != c.want || err != api.OK {
			t.Errorf("Row of %s = %s, %d; want %s", c.text, got, err, c.want)
		}
	}
	env.Initial = true
	if coeffs, _, err := rows.Row(s, expr(t, "if(initial;@x;neg(@x))"), []api.Use{x}, env); err != api.OK || coeffs[0] != "1" {
		t.Errorf("Row at the time of initialization = %v, %d", coeffs, err)
	}
}

// Errors are met in the order of evaluation; what is not needed, and binds of unknowns, do not matter.
func TestRowErrors(t *testing.T) {
	s, x := plant(t), []api.Use{use("x", 0)}
	env := at(t, "0", "@k=true", "@lock=1", "@on=true", "@x=false", "@z=0")
	for want, list := range map[api.Errno][]string{
		api.OK:        {"@x", "mul(@x;4)", "if(@on;@x;@y)", "if(@on;@x;@k)", "if(@on;@x;div(1;0))", "if(or(@on;@lock);@x;0)", "if(and(not(@on);@lock);div(1;@z);@x)"},
		api.ErrLinear: {"mul(@x;@x)", "div(@y;@x)", "add(mul(@x;@x);@y)", "add(@y;mul(@x;@x))", "add(div(1;0);div(1;@x))", "if(@on;0;mul(@x;@x))"},
		api.ErrNone:   {"@y", "pre@x", "@x:'", "mul(@x;@y)", "add(@y;div(1;0))", "add(@y;@k)", "mul(0;@y)", "div(@y;0)", "div(@x;@y)", "if(@on;@y;@x)", "if(less(@y;div(1;0));@x;@x)", "add(if(@on;@x;0);@y)"},
		api.ErrType:   {"@k", "mul(@x;@k)", "add(@k;@y)", "sub(@k;div(1;0))", "if(@lock;@x;@x)", "if(or(@lock;@on);@x;@x)", "if(less(@k;@y);@x;0)", "div(@k;@z)"},
		api.ErrZero:   {"div(1;@z)", "div(@x;@z)", "div(@x;0)", "add(div(@x;@z);@y)", "add(div(@x;@z);@k)", "mul(div(0;0);@x)", "mul(@x;div(0;0))", "if(less(div(1;@z);@y);@x;0)", "div(@x;mul(@z;5))", "neg(div(@x;sub(1;1)))"},
	} {
		for _, text := range list {
			coeffs, constant, err := rows.Row(s, expr(t, text), x, env)
			if err != want || err != api.OK && (coeffs != nil || constant != "") {
				t.Errorf("Row of %s = %v, %q, %d; want %d", text, coeffs, constant, err, want)
			}
		}
	}
}

// R7: only coefficients and constants that are returned may not have too many digits.
func TestRowLong(t *testing.T) {
	s, x := plant(t), []api.Use{use("x", 0)}
	for _, c := range []struct {
		text, want string
		err        api.Errno
	}{
		{"mul(" + nines + ";@x)", nines + " 0", api.OK}, {"add(mul(" + nines + ";@x);@x)", "", api.ErrSize}, {"sub(@x;div(@x;" + nines + "))", "", api.OK},
		{"mul(mul(" + tall + ";@x);" + tall + ")", "", api.ErrSize}, {"div(mul(mul(" + tall + ";@x);" + tall + ");" + tall + ")", tall + " 0", api.OK},
		{"add(mul(" + tall + ";" + tall + ");@x)", "", api.ErrSize}, {"sub(add(mul(" + tall + ";" + tall + ");@x);mul(" + tall + ";" + tall + "))", "1 0", api.OK},
		{"if(less(" + tall + ";mul(" + tall + ";" + tall + "));@x;0)", "1 0", api.OK}, {"add(mul(mul(" + tall + ";@x);" + tall + ");div(1;0))", "", api.ErrZero},
		{"mul(@x;sub(mul(" + tall + ";" + tall + ");mul(" + tall + ";" + tall + ")))", "0 0", api.OK}, {"div(@x;sub(mul(" + tall + ";" + tall + ");mul(" + tall + ";" + tall + ")))", "", api.ErrZero},
	} {
		coeffs, constant, err := rows.Row(s, expr(t, c.text), x, at(t, "0"))
		got := strings.Join(append(coeffs, constant), " ")
		if err != c.err || c.want != "" && got != c.want || err != api.OK && got != "" {
			t.Errorf("Row of %.40s = %.40s, %d; want %.40s, %d", c.text, got, err, c.want, c.err)
		}
	}
}

// badUnknowns are lists of uses that are no unknowns of the plant.
func badUnknowns() [][]api.Use {
	x, y := use("x", 0), use("y", 0)
	return [][]api.Use{
		{y, x}, {x, x}, {use("x", 1), x}, {x, use("x", 1), use("x", 1)}, {use("x", 7)}, {use("x", -1)}, {{Name: "x", Pre: true}}, {x, {Name: "x", Pre: true}},
		{use("w", 0)}, {use("", 0)}, {use("k", 0)}, {use("n", 0)}, {use("on", 0)}, {use("u", 0)}, {use("u", 1)}, {use("lock", 0), x},
	}
}

// linearForm calls IsLinear and Row, which look at the same things first, and returns their error.
func linearForm(t *testing.T, s api.System, e api.Expr, unknowns []api.Use, env api.Env) (api.Errno, api.Errno) {
	t.Helper()
	is, isErr := rows.IsLinear(s, e, unknowns)
	coeffs, constant, rowErr := rows.Row(s, e, unknowns, env)
	if isErr != api.OK && is || rowErr != api.OK && (len(coeffs) > 0 || constant != "") {
		t.Errorf("IsLinear and Row return something with the errors %d and %d", isErr, rowErr)
	}
	return isErr, rowErr
}

func TestLinearArguments(t *testing.T) {
	x := []api.Use{use("x", 0)}
	check := func(name string, want, wantRow api.Errno, s api.System, e api.Expr, unknowns []api.Use, env api.Env) {
		t.Helper()
		if is, row := linearForm(t, s, e, unknowns, env); is != want || row != wantRow {
			t.Errorf("%s: IsLinear returns %d, Row %d; want %d, %d", name, is, row, want, wantRow)
		}
	}
	bad := badUnknowns()[0]
	for want, s := range unfit(t) {
		check("a bad system", want, want, s, endless(), bad, api.Env{})
		check("a bad system", want, want, s, api.Expr{}, bad, api.Env{})
	}
	for want, list := range malformed() {
		for _, e := range list {
			check("a bad expression", want, want, plant(t), e, bad, api.Env{})
		}
	}
	for _, text := range []string{"true", "@on", "less(@x;1)", "not(@lock)", "if(@on;@on;@lock)", "initial"} {
		check(text, api.ErrType, api.ErrType, plant(t), expr(t, text), bad, api.Env{})
	}
	for _, unknowns := range badUnknowns() {
		check("bad unknowns", api.ErrForm, api.ErrForm, plant(t), expr(t, "mul(@x;@x)"), unknowns, badEnvs()[api.ErrSize][0])
	}
	for want, list := range badEnvs() {
		for _, env := range list {
			check("a bad environment", api.OK, want, plant(t), expr(t, "mul(@x;@x)"), x, env)
		}
	}
}

func TestManyUnknowns(t *testing.T) {
	var s api.System
	var unknowns []api.Use
	var terms []api.Expr
	env := api.Env{Time: "0"}
	for i := range 60 {
		name := "x" + strconv.Itoa(10+i)
		s.Vars = append(s.Vars, api.Var{Name: name})
		for order := range api.MaxOrder + 1 {
			unknowns = append(unknowns, use(name, order))
			env.Binds = append(env.Binds, api.Bind{Use: use(name, order), Value: "1"})
		}
		terms = append(terms, ref(name, i%7))
	}
	e := total(terms...)
	coeffs, constant, err := rows.Row(s, e, unknowns[:api.MaxUses], env)
	if len(coeffs) != api.MaxUses || constant != "3" || err != api.OK { // what is there of x67, x68 and x69 is no unknown
		t.Fatalf("Row in %d unknowns = %v, %s, %d", api.MaxUses, coeffs, constant, err)
	}
	for i, c := range coeffs {
		if want := i%7 == i/7%7; (c == "1") != want || (c == "0") == want {
			t.Errorf("the coefficient of %v is %s", unknowns[i], c)
		}
	}
	if is, err := rows.IsLinear(s, e, unknowns[:api.MaxUses+1]); is || err != api.ErrForm {
		t.Errorf("IsLinear in too many unknowns = %t, %d", is, err)
	}
	if _, _, err := rows.Rows(s, nil, unknowns[:api.MaxUses+1], env); err != api.ErrForm {
		t.Errorf("Rows in too many unknowns: %d", err)
	}
}

func TestRows(t *testing.T) {
	s := plant(t, "eq a add(@x;mul(2;@y)) 3", "eq b sub(@x;1) add(mul(@z;@y);mul(5;@x))", "eq c mul(@x;@y) 0", "eq d div(@x;sub(@z;2)) @n", "eq f mul(@x;@x:') @y", "init i @x 1")
	env := at(t, "0", "@z=2", "@x:'=7", "@x=true")
	unknowns := []api.Use{use("x", 0), use("y", 0)}
	for _, c := range []struct {
		eqs  []string
		want string
		err  api.Errno
	}{
		{[]string{"a"}, "1 2 = 3", api.OK}, {[]string{"b", "a"}, "-4 -2 = 1; 1 2 = 3", api.OK}, {[]string{"a", "b", "a"}, "1 2 = 3; -4 -2 = 1; 1 2 = 3", api.OK}, {nil, "", api.OK}, {[]string{"f"}, "7 -1 = 0", api.OK},
		{[]string{"c"}, "", api.ErrLinear}, {[]string{"a", "c", "d"}, "", api.ErrLinear}, {[]string{"a", "d", "c"}, "", api.ErrZero}, {[]string{"a", "i"}, "", api.ErrName}, {[]string{"c", "x"}, "", api.ErrName}, {[]string{"a'"}, "", api.ErrName},
		{[]string{"z", ""}, "", api.ErrForm}, {[]string{"c", "1"}, "", api.ErrForm}, {[]string{"a", strings.Repeat("a", 81)}, "", api.ErrForm}, {[]string{"a b"}, "", api.ErrForm},
	} {
		coeffs, constants, err := rows.Rows(s, c.eqs, unknowns, env)
		var list []string
		for i := range coeffs {
			list = append(list, strings.Join(coeffs[i], " ")+" = "+constants[i])
		}
		if got := strings.Join(list, "; "); got != c.want || err != c.err || len(coeffs) != len(constants) {
			t.Errorf("Rows of %v = %s, %d; want %s, %d", c.eqs, got, err, c.want, c.err)
		}
	}
}

// The Left side is evaluated before the Right one, each equation before the next one is looked at.
func TestRowsOrder(t *testing.T) {
	x := []api.Use{use("x", 0)}
	for _, c := range []struct {
		want api.Errno
		a, b string
	}{
		{api.ErrZero, "div(1;0) @y", "@y @y"}, {api.ErrNone, "@y div(1;0)", "div(1;0) 0"}, {api.ErrLinear, "@y mul(@x;@x)", "0 0"}, {api.ErrLinear, "div(1;@x) @y", "0 0"},
		{api.ErrNone, "@y 0", "mul(@x;@x) 0"}, {api.ErrLinear, "@x 0", "0 mul(@x;@x)"}, {api.ErrZero, "mul(mul(" + tall + ";" + tall + ");@x) 0", "@x div(1;0)"}, {api.ErrSize, "mul(mul(" + tall + ";" + tall + ");@x) 0", "@x 0"},
		{api.ErrSize, "@x 0", "@x mul(" + tall + ";neg(" + tall + "))"}, {api.OK, "mul(mul(" + tall + ";" + tall + ");@x) mul(mul(" + tall + ";" + tall + ");@x)", "@x 0"},
	} {
		s := plant(t, "eq a "+c.a, "eq b "+c.b)
		coeffs, constants, err := rows.Rows(s, []string{"a", "b"}, x, at(t, "0"))
		if err != c.want || err != api.OK && (len(coeffs) > 0 || len(constants) > 0) {
			t.Errorf("Rows of %.20s.. and %.20s.. = %v, %v, %d; want %d", c.a, c.b, coeffs, constants, err, c.want)
		}
	}
}

func TestRowsArguments(t *testing.T) {
	s, x := plant(t, "eq e mul(@x;@x) 0"), []api.Use{use("x", 0)}
	check := func(name string, want api.Errno, s api.System, eqs []string, unknowns []api.Use, env api.Env) {
		t.Helper()
		if coeffs, constants, err := rows.Rows(s, eqs, unknowns, env); err != want || len(coeffs) > 0 || len(constants) > 0 {
			t.Errorf("%s: Rows = %v, %v, %d; want %d", name, coeffs, constants, err, want)
		}
	}
	for want, bad := range unfit(t) {
		check("a bad system", want, bad, []string{""}, badUnknowns()[0], api.Env{})
	}
	large := badEnvs()[api.ErrSize][0]
	for _, unknowns := range badUnknowns() {
		check("bad unknowns", api.ErrForm, s, []string{"e"}, unknowns, large)
	}
	check("no name", api.ErrForm, s, []string{"e", ""}, x, large)
	for want, list := range badEnvs() {
		for _, env := range list {
			check("a bad environment", want, s, []string{"none"}, x, env)
		}
	}
	check("no equation", api.ErrName, s, []string{"e", "none"}, x, at(t, "0"))
	check("no list", api.OK, s, nil, nil, at(t, "0"))
}

// R5: results share no memory with one another.
func TestRowsMemory(t *testing.T) {
	s := plant(t, "eq e @x 1")
	coeffs, constants, _ := rows.Rows(s, []string{"e", "e"}, []api.Use{use("x", 0), use("y", 0)}, at(t, "0"))
	coeffs[0][1] = "spoilt"
	_ = append(coeffs[0], "spoilt")
	constants[0] = "spoilt"
	if !slices.Equal(coeffs[1], []string{"1", "0"}) || constants[1] != "1" {
		t.Errorf("the second row is %v, %v", coeffs[1], constants[1])
	}
}

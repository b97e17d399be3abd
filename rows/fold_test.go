package rows_test

import (
	"slices"
	"strings"
	"testing"

	"linkwork/api"
	"linkwork/rows"
)

func TestFold(t *testing.T) {
	s := plant(t)
	for text, want := range map[string]string{
		"neg(3)": "-3", "neg(-1/2)": "1/2", "add(1/2;1/3)": "5/6", "sub(1;3)": "-2", "mul(2/3;3/2)": "1", "div(1;3)": "1/3", "div(1;0)": "div(1;0)", "div(0;sub(2;2))": "div(0;0)", "neg(div(add(1;2);0))": "neg(div(3;0))",
		"less(1;2)": "true", "less(2;2)": "false", "atmost(2;2)": "true", "atmost(3;2)": "false", "more(3;2)": "true", "more(2;2)": "false", "atleast(2;2)": "true", "atleast(1;2)": "false",
		"equal(1/2;div(1;2))": "true", "equal(1;2)": "false", "equal(true;false)": "false", "equal(false;less(2;1))": "true", "unequal(1;2)": "true", "unequal(1;1)": "false", "unequal(true;false)": "true", "unequal(true;not(false))": "false",
		"and(true;true)": "true", "and(true;false)": "false", "and(false;true)": "false", "or(false;false)": "false", "or(false;true)": "true", "or(true;false)": "true", "not(true)": "false", "not(less(2;1))": "true",
		"and(true;@on)": "@on", "and(false;@on)": "false", "and(@on;true)": "and(@on;true)", "and(@on;false)": "and(@on;false)", "or(false;@on)": "@on", "or(true;@on)": "true", "or(@on;true)": "or(@on;true)", "or(@on;not(true))": "or(@on;false)",
		"and(false;less(div(1;0);1))": "false", "or(true;less(div(1;0);1))": "true", "and(less(div(1;0);1);false)": "and(less(div(1;0);1);false)", "or(less(add(1;1);1);less(@x;add(1;1)))": "less(@x;2)", "not(and(true;@lock))": "not(@lock)",
		"if(true;@x;@y)": "@x", "if(false;@x;@y)": "@y", "if(@on;add(1;1);neg(2))": "if(@on;2;-2)", "if(@on;1;1)": "if(@on;1;1)", "if(true;div(1;0);@y)": "div(1;0)", "if(less(1;2);add(@x;mul(2;3/2));@y)": "add(@x;3)", "if(and(true;@on);1;2)": "if(@on;1;2)",
		"add(if(true;1;@x);2)": "3", "add(if(or(true;@on);1;@x);if(and(false;@on);@x;2))": "3", "if(less(if(false;@x;1);2);@y;0)": "@y", "and(if(true;true;@on);@lock)": "@lock", "if(equal(div(1;0);0);@x;add(2;3))": "if(equal(div(1;0);0);@x;5)",
		"add(@x;0)": "add(@x;0)", "mul(0;@x)": "mul(0;@x)", "mul(1;@x)": "mul(1;@x)", "sub(@x;@x)": "sub(@x;@x)", "add(1;add(2;@x))": "add(1;add(2;@x))", "add(add(1;2);@x)": "add(3;@x)", "equal(@x;@x)": "equal(@x;@x)", "neg(neg(@x))": "neg(neg(@x))", "div(0;@x)": "div(0;@x)",
		"@k": "@k", "pre@n": "pre@n", "@x:''": "@x:''", "7/2": "7/2", "true": "true", "time": "time", "initial": "initial", "sample(0;1)": "sample(0;1)", "add(time;sub(3;1))": "add(time;2)", "if(sample(0;1);add(1;1);0)": "if(sample(0;1);2;0)", "or(initial;not(false))": "or(initial;true)", "not(not(initial))": "not(not(initial))",
		"if(less(@x;add(1;1));if(true;@y;1);div(4;2))": "if(less(@x;2);@y;2)", "div(add(@x;0);sub(3;3))": "div(add(@x;0);0)",
	} {
		f, err := rows.Fold(s, expr(t, text))
		if got := shown(t, f); got != want || err != api.OK {
			t.Errorf("Fold of %s = %s, %d; want %s", text, got, err, want)
			continue
		}
		if again, err := rows.Fold(s, f); shown(t, again) != want || err != api.OK {
			t.Errorf("Fold of %s, folded = %s, %d", want, shown(t, again), err)
		}
	}
}

// R7: only nums of what is returned may not have too many digits.
func TestFoldLong(t *testing.T) {
	square := "mul(" + tall + ";" + tall + ")"
	for _, c := range []struct {
		text, want string
		err        api.Errno
	}{
		{nines, nines, api.OK}, {"add(" + nines + ";1)", "", api.ErrSize}, {square, "", api.ErrSize}, {"neg(" + square + ")", "", api.ErrSize}, {"add(@x;" + square + ")", "", api.ErrSize}, {"less(@x;" + square + ")", "", api.ErrSize},
		{"sub(" + square + ";" + square + ")", "0", api.OK}, {"add(@x;div(" + square + ";" + tall + "))", "add(@x;" + tall + ")", api.OK}, {"less(" + square + ";1)", "false", api.OK}, {"if(more(" + square + ";1);@x;@y)", "@x", api.OK},
		{"if(false;" + square + ";@x)", "@x", api.OK}, {"if(true;" + square + ";@x)", "", api.ErrSize}, {"if(@on;" + square + ";@x)", "", api.ErrSize}, {"and(false;less(@x;" + square + "))", "false", api.OK}, {"or(less(@x;" + square + ");true)", "", api.ErrSize},
		{"div(1;sub(" + square + ";" + square + "))", "div(1;0)", api.OK}, {"div(" + square + ";sub(" + square + ";" + square + "))", "", api.ErrSize}, {"sub(if(true;" + square + ";@x);" + square + ")", "0", api.OK}, {"if(less(@x;" + square + ");1;1)", "", api.ErrSize},
	} {
		f, err := rows.Fold(plant(t), expr(t, c.text))
		if got := shown(t, f); got != c.want || err != c.err {
			t.Errorf("Fold of %.40s = %.40s, %d; want %.40s, %d", c.text, got, err, c.want, c.err)
		}
	}
}

func TestPut(t *testing.T) {
	s := plant(t)
	for _, c := range []struct {
		text string
		u    api.Use
		by   string
		want string
	}{
		{"if(less(1;2);add(@x;mul(2;3/2));@y)", use("x", 0), "5", "if(less(1;2);add(5;mul(2;3/2));@y)"}, {"@x", use("x", 0), "neg(@x)", "neg(@x)"}, {"add(@x;@x)", use("x", 0), "add(@x;1)", "add(add(@x;1);add(@x;1))"},
		{"add(@x;add(@x:';pre@x))", use("x", 0), "1", "add(1;add(@x:';pre@x))"}, {"add(@x;add(@x:';pre@x))", use("x", 1), "1", "add(@x;add(1;pre@x))"}, {"add(@x;add(@x:';pre@x))", api.Use{Name: "x", Pre: true}, "@x:'", "add(@x;add(@x:';@x:'))"},
		{"mul(@x;@u:'')", use("u", 2), "time", "mul(@x;time)"}, {"mul(@x;@u:'')", use("u", 1), "time", "mul(@x;@u:'')"}, {"mul(@k;@n)", use("k", 0), "@n", "mul(@n;@n)"}, {"mul(pre@k;@k)", api.Use{Name: "k", Pre: true}, "2", "mul(2;@k)"},
		{"if(@on;@x;@y)", use("on", 0), "less(@x;0)", "if(less(@x;0);@x;@y)"}, {"or(pre@on;@on)", api.Use{Name: "on", Pre: true}, "true", "or(true;@on)"}, {"if(and(@lock;less(@z;1));@z;neg(@z))", use("z", 0), "7", "if(and(@lock;less(7;1));7;neg(7))"},
		{"@y", use("x", 0), "1", "@y"}, {"3", use("x", 6), "1", "3"}, {"sample(0;1)", use("n", 0), "1", "sample(0;1)"}, {"not(@on)", use("lock", 0), "initial", "not(@on)"}, {"@on", use("x", 0), "1", "@on"},
	} {
		e, err := rows.Put(s, expr(t, c.text), c.u, expr(t, c.by))
		if got := shown(t, e); got != c.want || err != api.OK {
			t.Errorf("Put of %s for %v in %s = %s, %d; want %s", c.by, c.u, c.text, got, err, c.want)
		}
	}
}

func TestFoldErrors(t *testing.T) {
	checkForms(t, "Fold", rows.Fold)
}

func TestPutErrors(t *testing.T) {
	x, yes := ref("x", 0), truth(true)
	check := func(want api.Errno, s api.System, e api.Expr, u api.Use, by api.Expr) {
		t.Helper()
		if r, err := rows.Put(s, e, u, by); err != want || (err == api.OK) != (r.Op != "") {
			t.Errorf("Put of one with %q for %v in one with %q = %v, %d; want %d", by.Op, u, e.Op, r, err, want)
		}
	}
	for want, s := range unfit(t) {
		check(want, s, api.Expr{}, api.Use{}, api.Expr{})
		check(want, s, endless(), api.Use{}, endless())
	}
	for want, list := range malformed() {
		for _, e := range list {
			check(want, plant(t), e, api.Use{}, api.Expr{})
			check(want, plant(t), e, api.Use{}, endless())
			check(want, plant(t), x, api.Use{}, e)
		}
	}
	for _, u := range []api.Use{{}, use("w", 0), use("1", 0), use(strings.Repeat("x", 81), 0), use("x", 7), use("x", -1), {Name: "x", Order: 1, Pre: true}, use("n", 1), use("k", 1), use("on", 1), {Name: "w", Pre: true}} {
		check(api.ErrForm, plant(t), x, u, yes)
		check(api.ErrForm, plant(t), x, u, x)
	}
	for _, u := range []api.Use{use("x", 0), use("x", 6), use("u", 1), {Name: "k", Pre: true}, use("n", 0)} {
		check(api.ErrType, plant(t), x, u, yes)
		check(api.OK, plant(t), x, u, x)
	}
	for _, u := range []api.Use{use("on", 0), use("lock", 0), {Name: "on", Pre: true}} {
		check(api.ErrType, plant(t), x, u, x)
		check(api.OK, plant(t), x, u, yes)
	}
	// As deep, and as large, as can be.
	check(api.OK, plant(t), chain(12, x, api.Neg), use("x", 0), chain(11, x, api.Neg))
	check(api.ErrSize, plant(t), chain(12, x, api.Neg), use("x", 0), chain(12, x, api.Neg))
	check(api.OK, plant(t), chain(12, x, api.Neg), use("y", 0), chain(12, x, api.Neg))
	four := op(api.Neg, op(api.Neg, op(api.Neg, x)))
	check(api.OK, plant(t), op(api.Neg, total(slices.Repeat([]api.Expr{x}, 40)...)), use("x", 0), four)
	check(api.ErrSize, plant(t), op(api.Neg, op(api.Neg, total(slices.Repeat([]api.Expr{x}, 40)...))), use("x", 0), four)
}

// R5: results share no memory with arguments, and parts of them none with one another.
func TestFoldMemory(t *testing.T) {
	s := plant(t)
	e := expr(t, "add(if(true;neg(neg(@x));0);if(@on;mul(@x;add(1;2));if(less(@x;1);@y;neg(neg(@z)))))")
	f, err := rows.Fold(s, e)
	if err != api.OK {
		t.Fatalf("Fold: %d", err)
	}
	checkMemory(t, e, f)
	by := expr(t, "add(@x;neg(@y))")
	p, err := rows.Put(s, e, use("x", 0), by)
	if err != api.OK {
		t.Fatalf("Put: %d", err)
	}
	checkMemory(t, e, by, p)
	same, err := rows.Put(s, e, use("u", 0), by)
	if err != api.OK {
		t.Fatalf("Put: %d", err)
	}
	checkMemory(t, e, by, same)
}

package rows_test

import (
	"reflect"
	"slices"
	"strings"
	"testing"

	"linkwork/api"
	"linkwork/rows"
)

func TestDerive(t *testing.T) {
	s := plant(t)
	for text, want := range map[string]string{
		"3/2": "0", "@k": "0", "@n": "0", "pre@k": "0", "pre@n": "0", "pre@u": "0", "pre@x": "0", "time": "1", "@x": "@x:'", "@x:'": "@x:''", "@x:'''''": "@x:''''''", "@u": "@u:'", "@u:''": "@u:'''",
		"neg(@x)": "neg(@x:')", "add(@x;time)": "add(@x:';1)", "sub(@k;@y)": "sub(0;@y:')", "mul(@x;@x)": "add(mul(@x:';@x);mul(@x;@x:'))", "mul(2;@x)": "add(mul(0;@x);mul(2;@x:'))",
		"div(@x;@y)": "div(sub(mul(@x:';@y);mul(@x;@y:'));mul(@y;@y))", "if(@on;@x;1)": "if(@on;@x:';0)", "if(less(@x:'';time);mul(@x;3);pre@x)": "if(less(@x:'';time);add(mul(@x:';3);mul(@x;0));0)",
		"if(sample(0;1);time;0)": "if(sample(0;1);1;0)", "neg(add(mul(@x;@y);@z))": "neg(add(add(mul(@x:';@y);mul(@x;@y:'));@z:'))", "div(1;div(@u;2))": "div(sub(mul(0;div(@u;2));mul(1;div(sub(mul(@u:';2);mul(@u;0));mul(2;2))));mul(div(@u;2);div(@u;2)))",
	} {
		e, err := rows.Derive(s, expr(t, text))
		if got := shown(t, e); got != want || err != api.OK {
			t.Errorf("Derive of %s = %s, %d; want %s", text, got, err, want)
		}
	}
}

func TestDeriveErrors(t *testing.T) {
	checkForms(t, "Derive", rows.Derive)
	s := plant(t)
	check := func(want api.Errno, e api.Expr) {
		t.Helper()
		if got, err := rows.Derive(s, e); err != want || (err == api.OK) != (got.Op != "") {
			t.Errorf("Derive of an expression with %q = %v, %d; want %d", e.Op, got, err, want)
		}
	}
	x, top := ref("x", 0), ref("x", 6)
	for _, text := range []string{"true", "@on", "less(@x:'''''';1)", "if(true;@on;@lock)"} {
		check(api.ErrType, expr(t, text))
	}
	for _, text := range []string{"@x:''''''", "@u:''''''", "add(1;neg(@x:''''''))", "if(less(@x:'''''';1);@x;0)", "if(@on;0;mul(@y:'''''';0))"} {
		check(api.ErrArg, expr(t, text))
	}
	// As deep as can be; a product is derived to what is one deeper.
	check(api.OK, chain(23, x, api.Neg))
	check(api.OK, chain(21, op(api.Mul, x, x), api.Neg))
	check(api.ErrSize, chain(22, op(api.Mul, x, x), api.Neg))
	check(api.ErrArg, chain(22, op(api.Mul, top, x), api.Neg))
	// As large as can be: a sum of products, each of which, of the size 3, has a derivative of the size 7.
	products := slices.Repeat([]api.Expr{op(api.Mul, x, x)}, 25)
	check(api.OK, op(api.Neg, total(products...)))
	check(api.ErrSize, op(api.Neg, op(api.Neg, total(products...))))
	check(api.ErrArg, op(api.Add, total(products...), top))
}

func TestDeriveEq(t *testing.T) {
	long := strings.Repeat("n", 80)
	s := plant(t, "eq a @x @u", "eq b mul(@x;@y) time", "eq e' neg(@x:') pre@x", "eq "+long+" @x 0", "init i @x 1")
	for _, c := range []struct {
		name  string
		times int
		want  string
	}{
		{"a", 0, "a @x @u"}, {"a", 1, "a' @x:' @u:'"}, {"a", 6, "a'''''' @x:'''''' @u:''''''"}, {"b", 1, "b' add(mul(@x:';@y);mul(@x;@y:')) 1"},
		{"b", 2, "b'' add(add(mul(@x:'';@y);mul(@x:';@y:'));add(mul(@x:';@y:');mul(@x;@y:''))) 0"}, {"e'", 2, "e''' neg(@x:''') 0"}, {long, 0, long + " @x 0"},
	} {
		q, err := rows.DeriveEq(s, c.name, c.times)
		if got := strings.Join([]string{q.Name, shown(t, q.Left), shown(t, q.Right)}, " "); got != c.want || err != api.OK {
			t.Errorf("DeriveEq of %s, %d times = %s, %d; want %s", c.name, c.times, got, err, c.want)
		}
	}
}

func TestDeriveEqErrors(t *testing.T) {
	long, name79 := strings.Repeat("n", 80), strings.Repeat("m", 79)
	s := plant(t, "eq a @x:' @u", "eq b @x:''''' @y", "eq c @y @x:''''''", "eq "+name79+" @x @y", "eq "+long+" @x @y:'''''", "init i @x 1")
	check := func(want api.Errno, s api.System, name string, times int) {
		t.Helper()
		if q, err := rows.DeriveEq(s, name, times); err != want || (err == api.OK) != (q.Name != "") || err != api.OK && !reflect.DeepEqual(q, api.Eq{}) {
			t.Errorf("DeriveEq of %s, %d times = %v, %d; want %d", name, times, q, err, want)
		}
	}
	for want, bad := range unfit(t) {
		check(want, bad, "", -1)
	}
	for _, name := range []string{"", "1", "a b", "a\x00", strings.Repeat("a", 81)} {
		check(api.ErrForm, s, name, -1)
	}
	check(api.ErrArg, s, "none", -1)
	check(api.ErrArg, s, "none", 7)
	check(api.ErrArg, s, "a", 1<<62)
	for _, name := range []string{"none", "i", "x", "a'"} {
		check(api.ErrName, s, name, 6)
	}
	check(api.OK, s, "a", 5)
	check(api.ErrArg, s, "a", 6)
	check(api.OK, s, "b", 1)
	check(api.ErrArg, s, "b", 2)
	check(api.OK, s, "c", 0)
	check(api.ErrArg, s, "c", 1)
	check(api.OK, s, name79, 1)
	check(api.ErrForm, s, name79, 2)
	check(api.ErrForm, s, long, 1)
	check(api.ErrArg, s, long, 2) // after all others
}

// Both sides are derived once before one is derived twice.
func TestDeriveEqOrder(t *testing.T) {
	x := ref("x", 0)
	large := chain(22, op(api.Mul, x, x), api.Neg) // its derivative is too large
	later := chain(21, op(api.Mul, x, x), api.Neg) // that of its derivative is
	for _, c := range []struct {
		left, right api.Expr
		times       int
		want        api.Errno
	}{
		{large, ref("x", 6), 1, api.ErrSize}, {ref("x", 6), large, 1, api.ErrArg}, {later, ref("x", 6), 2, api.ErrArg}, {ref("x", 5), large, 2, api.ErrSize}, {ref("x", 5), later, 2, api.ErrArg}, {later, ref("x", 5), 2, api.ErrSize},
		{later, ref("x", 5), 1, api.OK}, {large, ref("x", 6), 0, api.OK},
	} {
		s := plant(t)
		s.Eqs = []api.Eq{{Name: "e", Left: c.left, Right: c.right}}
		if _, err := rows.DeriveEq(s, "e", c.times); err != c.want {
			t.Errorf("DeriveEq of %s = %s, %d times: %d, want %d", show(t, c.left), show(t, c.right), c.times, err, c.want)
		}
	}
}

func TestHighest(t *testing.T) {
	for _, c := range []struct {
		lines []string
		want  []api.Use
	}{
		{nil, nil},
		{[]string{"eq a @x 0"}, []api.Use{use("x", 0)}},
		{[]string{"eq a @z:' @x", "eq b mul(@x:'';@z) neg(@x:')", "init i @y 1"}, []api.Use{use("x", 2), use("z", 1)}},
		{[]string{"eq a if(less(@y:''';1);@u:';@k) @n"}, []api.Use{use("y", 3)}},
		{[]string{"eq a pre@x pre@y", "eq b pre@z @z"}, []api.Use{use("z", 0)}},
		{[]string{"eq a @x @x:''''''", "eq b @y @x:'''''", "init i @z:'' 0", "when w less(@z;0) assign n @z:' reinit x pre@x"}, []api.Use{use("x", 6), use("y", 0)}},
	} {
		if got, err := rows.Highest(plant(t, c.lines...)); !slices.Equal(got, c.want) || err != api.OK {
			t.Errorf("Highest of %q = %v, %d; want %v", c.lines, got, err, c.want)
		}
	}
	for want, s := range unfit(t) {
		if got, err := rows.Highest(s); len(got) > 0 || err != want {
			t.Errorf("Highest of a bad system = %v, %d; want %d", got, err, want)
		}
	}
}

// R5: results share no memory with arguments, and parts of them none with one another.
func TestDeriveMemory(t *testing.T) {
	s := plant(t, "eq e mul(div(neg(@x);add(@x;1));if(less(neg(@x);1);neg(@x);0)) neg(neg(2))")
	left, right := s.Eqs[0].Left, s.Eqs[0].Right
	d, err := rows.Derive(s, left)
	if err != api.OK {
		t.Fatalf("Derive: %d", err)
	}
	checkMemory(t, left, right, d)
	for times := range 2 {
		q, err := rows.DeriveEq(s, "e", times)
		if err != api.OK {
			t.Fatalf("DeriveEq: %d", err)
		}
		checkMemory(t, left, right, q.Left, q.Right)
	}
}

package measure_test

import (
	"slices"
	"strconv"
	"strings"
	"testing"

	"linkwork/api"
	"linkwork/measure"
)

// units that are inferred are written in one line, `-` for those that are not the same in all.
func inferred(s api.System) (string, string, api.Errno) {
	units, name, err := measure.Infer(s)
	for i, u := range units {
		if u == "" {
			units[i] = "-"
		}
	}
	return strings.Join(units, " "), name, err
}

// Each rule for the unit of an expression, and each demand, with the units that come of it.
func TestInfer(t *testing.T) {
	for _, c := range []struct {
		vars, lines, want string
	}{
		{"", "", ""}, {"x", "", "-"}, {"x:m", "", "m"}, {"x:1", "", "1"}, {"=k:m #n:1 ?on !u:s x:V(1/2) y", "", "m 1 - s V(1/2) -"}, {"?on", "", "-"},
		{"R V:V i:A v x:m z", "eq a @V mul(@R;@i)\neq b @x:' @v", "A-1.V V A m.s-1 m -"},
		{"x", "eq e @x mul(@x;@x)", "1"}, {"x y", "eq e @x mul(@x;@y)", "- 1"}, {"x y", "eq e @x @y", "- -"}, {"x y:m", "eq e @x @y", "m m"}, {"x y:m", "init e @x @y", "m m"},
		// num, and the number 0
		{"x", "eq e @x 1", "1"}, {"x", "eq e -1/2 @x", "1"}, {"x", "eq e @x 0", "-"}, {"x:m", "eq e @x 0", "m"}, {"x:m", "eq e 0 @x", "m"}, {"x:m y:s", "eq e @x 0\neq f @y 0", "m s"}, {"x", "eq e 0 0", "-"}, {"x", "eq e 1 2", "-"}, {"x", "eq e 0 1", "-"},
		{"x:m y", "eq e @y add(@x;0)", "m m"}, {"x:m y", "eq e @y sub(0;@x)", "m m"}, {"x:m y", "eq e @y add(0;add(0;0))", "m -"}, {"x:m y", "eq e @y mul(0;@x)", "m -"}, {"x:m y", "eq e @x mul(@y;0)", "m -"}, {"x:m y", "eq e @y div(0;@x)", "m -"}, {"x:m y", "eq e @y div(@x;0)", "m -"},
		{"x:m y", "eq e @y neg(0)", "m -"}, {"x:m y", "eq e @x add(mul(0;@y);mul(0;@y))", "m -"}, {"x:m y", "eq e @y add(mul(0;@y);@x)", "m m"}, {"x y:m", "eq e @x if(true;0;@y)", "m m"}, {"x y:m", "eq e @x if(true;@y;0)", "m m"}, {"x y:m", "eq e @x if(true;0;0)", "- m"},
		{"x:m y:s", "eq e add(mul(0;@x);@x) add(mul(@y;0);@x)", "m s"}, {"x:m y z", "eq e mul(add(0;@x);@y) mul(@z;add(0;@x))\neq f @z 5", "m 1 1"},
		// time, var, pre
		{"x", "eq e @x time", "s"}, {"x", "eq e mul(@x;time) 1", "s-1"}, {"x:m y", "eq e @y @x:''", "m m.s-2"}, {"x:m y", "eq e @x @y:''", "m m.s2"}, {"x:m y", "eq e @x:''' @y:'", "m m.s-2"}, {"x:m y", "eq e @y @x:''''''", "m m.s-6"},
		{"x:s", "eq e @x:' 1", "s"}, {"x", "eq e @x:' 1", "s"}, {"!u:V(1/2) y", "eq e @y @u:'", "V(1/2) V(1/2).s-1"}, {"#n:m y", "eq e @y @n", "m m"}, {"=k y", "eq e @y mul(@k;time)\neq f @k 2", "1 s"},
		{"x y:m", "eq e pre@x @y", "m m"}, {"#n:m y", "eq e @y pre@n", "m m"}, {"x y:m", "eq e pre@y @x:'", "m.s m"},
		// neg, add, sub, mul, div, if
		{"x y:m", "eq e neg(@x) @y", "m m"}, {"x y:m", "eq e @y neg(neg(@x))", "m m"}, {"x y:m z", "eq e @z add(@x;@y)", "m m m"}, {"x y:m z", "eq e @z sub(@x;@y)", "m m m"}, {"w x y:m z", "eq e 0 add(sub(@x;@z);add(@w;@y))", "m m m m"},
		{"x:m y:s z", "eq e @z mul(@x;@y)", "m s m.s"}, {"x:m y:s z", "eq e @z div(@x;@y)", "m s m.s-1"}, {"x:m y:s z", "eq e mul(@z;@x) div(@y;@z)", "m s m(-1/2).s(1/2)"}, {"x y:m", "eq e mul(@x;mul(@x;@x)) @y", "m(1/3) m"}, {"x y:m", "eq e div(1;@x) @y", "m-1 m"},
		{"x y:m", "eq e div(@x;@x) div(@y;@y)", "- m"}, {"x y z:V", "eq e mul(@x;@y) @z\neq f div(@x;@y) mul(@z;@z)", "V(3/2) V(-1/2) V"},
		{"?on x y:m z", "eq e @z if(@on;@x;@y)", "- m m m"}, {"?on x y:m", "eq e 0 if(@on;@x;@y)", "- m m"}, {"x y:m z", "eq e @x if(less(@y;@z);1;2)", "1 m m"}, {"w x y:m z", "eq e 0 if(less(if(more(@y;@z);@w;@x);@x);1;0)\neq f @w:' @y", "m.s m.s m m"},
		// less, atmost, more, atleast, equal, unequal; and, or, not
		{"x y:m z:s", "eq e if(less(@x;@y);1;2) 1", "m m s"}, {"x y:m z:s", "eq e if(atmost(@x;@y);1;2) 1", "m m s"}, {"x y:m z:s", "eq e 0 if(more(@x;@z);@y;0)", "s m s"}, {"x y:m z:s", "eq e 0 if(atleast(@x;@z);@y;0)", "s m s"}, {"x y:m", "eq e 0 if(equal(@x;@y);1;0)", "m m"}, {"x y:m", "eq e 0 if(unequal(@y;@x);1;0)", "m m"},
		{"x y:m z", "eq e 0 if(less(@x;0);@y;@z)", "- m m"}, {"x", "eq e 0 if(less(@x;1);1;0)", "1"}, {"x", "eq e 0 if(less(1;mul(0;@x));1;0)", "-"},
		{"?a ?b x y:m", "eq e 0 if(equal(@a;less(@x;@y));1;0)", "- - m m"}, {"?a ?b x y:m", "eq e 0 if(unequal(if(@a;@b;less(@x;@y));@b);1;0)", "- - m m"}, {"?a x y:m", "eq e 0 if(and(@a;less(@x;@y));1;0)", "- m m"}, {"?a x y:m", "eq e 0 if(or(less(@x;@y);@a);1;0)", "- m m"}, {"?a x y:m", "eq e 0 if(not(not(less(@x;@y)));1;0)", "- m m"},
		{"x:m y:s", "eq e 0 if(and(initial;sample(1;2));1;0)", "m s"}, {"x:m y:s", "eq e 0 if(equal(sample(0;1/2);sample(3;1/2));@x;0)", "m s"},
		// Whens
		{"#n x y:m", "when w true assign n @y", "m - m"}, {"#n:m x y", "when w true assign n mul(@x;@y)", "m - -"}, {"#n:m x y", "when w less(@x;1) assign n mul(@x;@y)", "m 1 m"}, {"x y:m", "when w initial reinit x neg(pre@y)", "m m"}, {"x:m y", "when w initial reinit x @y:'", "m m.s"},
		{"#n ?on x y:m", "when w less(@x;@y) assign n 0 assign on more(@n;time) reinit y 0", "s - m m"}, {"?on x y:m", "when w true assign on if(@on;true;less(@x;@y))", "- m m"}, {"#n", "when w sample(0;2) assign n add(pre@n;1)", "1"}, {"#n x:m", "when v less(@x;0) assign n 0 reinit x 0\nwhen w sample(0;2) reinit x @n", "m m"},
		// more than one equation
		{"a b c d:m", "eq e @a mul(@b;@b)\neq f @b mul(@c;@c)\neq g @c mul(@d;@d)", "m8 m4 m2 m"}, {"a b c d:m", "eq e mul(@a;@a) @b\neq f mul(@b;@b) @c\neq g mul(@c;@c) @d", "m(1/8) m(1/4) m(1/2) m"},
		{"a b c", "eq e @a mul(@b;@c)\neq f @b mul(@a;@c)\neq g @c 1", "- - 1"}, {"a b c", "eq e @a mul(@b;@c)\neq f @b mul(@a;@c)", "- - 1"}, {"a b", "eq e mul(@a;@b) 1\neq f div(@a;@b) time", "s(1/2) s(-1/2)"}, {"a b c d", "eq e mul(@a;@c) @b:'\neq f mul(@b;@c) @a:'\neq g @d div(@a;@b)", "- - s-1 1"},
		{"x:m y:s", "eq e mul(@x;@y) mul(@y;@x)\neq f @x div(mul(@x;@y);@y)", "m s"}, {"x:m y:s z", "eq e add(@x;mul(@z;@y)) mul(@y;@z)", "m s m.s-1"}, {"x y:s.x z:x", "eq e mul(@x;@z) @y", "s s.x x"},
	} {
		s := model(t, c.vars, c.lines)
		if got, name, err := inferred(s); got != c.want || name != "" || err != api.OK {
			t.Errorf("Infer of %s with %s = %s, %q, %d; want %s", c.lines, c.vars, got, name, err, c.want)
		}
		if got, err := measure.Consistent(s); !got || err != api.OK {
			t.Errorf("Consistent of %s with %s = %t, %d", c.lines, c.vars, got, err)
		}
	}
}

// The first claim, in order, that cannot be met together with those before it.
func TestInferContradiction(t *testing.T) {
	for _, c := range []struct{ vars, lines, want string }{
		{"x:m", "eq e @x 1", "eq e"}, {"x:m", "eq e 1 @x", "eq e"}, {"x:m", "eq e @x time", "eq e"}, {"x:m", "eq e @x mul(@x;@x)", "eq e"}, {"x:m", "eq e @x @x:'", "eq e"}, {"x", "eq e @x:'' @x:'", "eq e"}, {"x:m y:s", "eq e @x @y", "eq e"}, {"x:m y:m2", "eq e @x @y", "eq e"}, {"x:m y:M", "eq e @x @y", "eq e"},
		{"x:m", "eq e time 1", "eq e"}, {"x:m", "eq e add(time;1) 0", "eq e"}, {"x:m", "eq e sub(@x;1) 0", "eq e"}, {"x:m", "eq e if(true;@x;1) 0", "eq e"}, {"x:m", "eq e mul(0;add(@x;1)) 0", "eq e"}, {"x:m y", "eq e @y neg(add(@x;1))", "eq e"}, {"x:m y", "eq e div(@y;sub(@x;1)) 0", "eq e"}, {"x:m y", "eq e if(less(0;add(@x;1));0;0) 0", "eq e"},
		{"x:m", "eq e if(less(@x;1);0;0) 0", "eq e"}, {"x:m", "eq e if(atmost(@x;1);0;0) 0", "eq e"}, {"x:m", "eq e if(more(@x;1);0;0) 0", "eq e"}, {"x:m", "eq e if(atleast(@x;1);0;0) 0", "eq e"}, {"x:m", "eq e if(equal(@x;1);0;0) 0", "eq e"}, {"x:m", "eq e if(unequal(1;@x);0;0) 0", "eq e"}, {"x:m", "eq e if(and(true;or(not(less(@x;1));true));0;0) 0", "eq e"}, {"?on x:m", "eq e if(equal(@on;less(@x;1));0;0) 0", "eq e"},
		{"x:m", "init e @x 1", "init e"}, {"x:m", "when w less(@x;1) reinit x 0", "when w"}, {"x:m", "when w true reinit x 1", "when w"}, {"#n:m x:s", "when w true assign n @x", "when w"}, {"#n:m x:s", "when w true assign n @x reinit x 0", "when w"}, {"#n:m x:s", "when w true reinit x @x assign n 1", "when w"}, {"?on x:m", "when w true assign on less(@x;1)", "when w"},
		// the first one; all of an equation together
		{"x y:m", "eq a @x @y\neq b @x 1\neq c @x time", "eq b"}, {"x y:m", "eq a @x 1\neq b @x @y", "eq b"}, {"x y:m", "eq b @x @y\ninit a @x 1", "init a"}, {"x y:m", "eq b @x @y\neq c @y 2\ninit a @x 1", "eq c"}, {"x y:m", "init b @x @y\nwhen a less(@x;1) reinit x 0", "when a"}, {"x y:m", "init b @x 1\nwhen a less(@x;@y) reinit x 0", "when a"},
		{"x:m y", "eq a @y 1\ninit a @y 2\nwhen a true reinit x @y", "when a"}, {"x y z:m", "eq a mul(@x;@y) 1\neq b @x @y\neq c @x @z", "eq c"}, {"x y z:m", "eq a @z mul(@x;@y)\neq b @x mul(@y;@z)\neq c @y 2", ""}, {"x y z:m", "eq a @z mul(@x;@y)\neq b @x mul(@y;@z)\neq c @y 2\neq d @z mul(@x;@x)", "eq d"},
		{"x y", "eq a if(less(@x;1);@y;time) 0\neq b @x @y", "eq b"}, {"x:a.b y:b z", "eq e @z div(@x;@y)\neq f @z mul(@x;@y)", "eq f"}, {"x:a(1/2) y:a(1/3)", "eq e mul(@x;@x) mul(@y;mul(@y;@y))\neq f mul(@x;@x) mul(@y;@y)", "eq f"},
		{"a b c", "eq e @a mul(@b;time)\neq f @b mul(@c;time)\neq g @c mul(@a;time)", "eq g"}, {"a b c", "eq e @a mul(@b;time)\neq f @b mul(@c;time)\neq g @c div(div(@a;time);time)\nwhen w less(@b;@c) reinit a 0", "when w"},
	} {
		s := model(t, c.vars, c.lines)
		want := api.ErrUnit
		if c.want == "" {
			want = api.OK
		}
		if got, name, err := inferred(s); name != c.want || err != want || (err != api.OK && got != "") {
			t.Errorf("Infer of %s with %s = %s, %q, %d; want %q", c.lines, c.vars, got, name, err, c.want)
		}
		if got, err := measure.Consistent(s); got != (c.want == "") || err != api.OK {
			t.Errorf("Consistent of %s with %s = %t, %d", c.lines, c.vars, got, err)
		}
		if got, err := measure.Of(s, num("1")); c.want != "" && (got != "" || err != api.ErrUnit) {
			t.Errorf("Of with %s = %s, %d", c.lines, got, err)
		}
	}
}

// A unit that is the same in all may be no unit that can be written: ErrSize, which Consistent does not return.
func TestInferSize(t *testing.T) {
	tenfold := "mul(@x;mul(@x;mul(@x;mul(@x;mul(@x;mul(@x;mul(@x;mul(@x;mul(@x;@x)))))))))"
	for _, c := range []struct {
		vars, lines, want string
		err               api.Errno
	}{
		{"x:m99999999 y", "eq e @y " + tenfold, "m99999999 m999999990", api.OK}, {"x:m100000000 y", "eq e @y " + tenfold, "", api.ErrSize}, {"x:m(1/999999999) y", "eq e mul(@y;@y) @x", "", api.ErrSize}, {"x y:m(1/10000000)", "eq e @y " + tenfold, "m(1/100000000) m(1/10000000)", api.OK}, {"x y:m(1/100000000)", "eq e @y " + tenfold, "", api.ErrSize},
		{"x:" + longUnit + " y", "eq e @x @y", longUnit + " " + longUnit, api.OK}, {"x:" + longUnit + " y", "eq e @x:' @y", "", api.ErrSize}, {"x:" + longUnit + " y", "eq e @x @y:'", "", api.ErrSize}, {"x:" + longUnit + " y", "eq e 0 mul(@x;@y)", longUnit + " -", api.OK}, {"x:" + longUnit + " y", "eq e div(@x;@x) @y", longUnit + " 1", api.OK},
		{"x:" + longUnit + " y z", "eq e mul(@x;@x) mul(@y;@z)", longUnit + " - -", api.OK}, {"x:" + longUnit + " y z", "eq e mul(@x;@x) mul(@y;@z)\neq f @y @x", longUnit + " " + longUnit + " " + longUnit, api.OK}, {"x:" + longUnit + " y z", "eq e mul(@x;@x) mul(@y;@z)\neq f @y 1", "", api.ErrSize},
	} {
		s := model(t, c.vars, c.lines)
		if got, name, err := inferred(s); got != c.want || name != "" || err != c.err {
			t.Errorf("Infer of %s with %s = %s, %q, %d; want %s, %d", c.lines, c.vars, got, name, err, c.want, c.err)
		}
		if got, err := measure.Consistent(s); !got || err != api.OK {
			t.Errorf("Consistent of %s with %s = %t, %d", c.lines, c.vars, got, err)
		}
	}
	// A contradiction comes first.
	s := model(t, "x:"+longUnit+" y", "eq e @x:' @y", "eq f @x 1")
	if got, name, err := inferred(s); got != "" || name != "eq f" || err != api.ErrUnit {
		t.Errorf("Infer = %s, %q, %d", got, name, err)
	}
}

func TestOf(t *testing.T) {
	const vars = "=k:V(1/2) #n:m ?on !u:A v x:m y z"
	s := model(t, vars, "eq e @v @x:'")
	for _, c := range []struct {
		text, want string
		err        api.Errno
	}{
		{"@x", "m", api.OK}, {"@v", "m.s-1", api.OK}, {"@y", "", api.OK}, {"pre@v", "m.s-1", api.OK}, {"@v:''", "m.s-3", api.OK}, {"mul(@v;@x:'')", "m2.s-3", api.OK}, {"time", "s", api.OK}, {"1", "1", api.OK}, {"-3/2", "1", api.OK}, {"@k", "V(1/2)", api.OK}, {"@n", "m", api.OK}, {"@u:'", "A.s-1", api.OK},
		{"0", "", api.OK}, {"neg(0)", "", api.OK}, {"mul(0;@x)", "", api.OK}, {"div(@x;0)", "", api.OK}, {"add(0;@x)", "m", api.OK}, {"sub(@x;0)", "m", api.OK}, {"add(0;0)", "", api.OK}, {"if(@on;0;@v)", "m.s-1", api.OK}, {"if(@on;0;0)", "", api.OK}, {"add(mul(0;@x);1)", "1", api.OK},
		{"neg(@x)", "m", api.OK}, {"div(@x;@v)", "s", api.OK}, {"mul(@k;@k)", "V", api.OK}, {"add(@x;mul(@v;time))", "m", api.OK}, {"if(less(@x;@n);@x;@n)", "m", api.OK}, {"mul(if(initial;1;0);@u)", "A", api.OK}, {"if(sample(1;2);1;2)", "1", api.OK},
		// What the expression demands determines units in it.
		{"add(@y;@x)", "m", api.OK}, {"mul(@y;@z)", "", api.OK}, {"div(@y;@y)", "1", api.OK}, {"div(@y;@z)", "", api.OK}, {"if(less(@y;@x);@y;0)", "m", api.OK}, {"if(equal(@y;@z);div(@y;@z);1)", "1", api.OK}, {"div(@y;if(unequal(@y;@z);@z;0))", "1", api.OK}, {"mul(@y;if(less(@y;mul(@z;@z));@z;mul(@y;@z)))", "1", api.OK},
		{"add(mul(@y;@y);mul(@y;@z))", "", api.OK}, {"div(add(mul(@y;@y);mul(@y;@z));mul(@z;@z))", "1", api.OK},
		{"add(@x;1)", "", api.ErrUnit}, {"sub(@x;@v)", "", api.ErrUnit}, {"mul(0;add(@x;time))", "", api.ErrUnit}, {"if(@on;@x;@u)", "", api.ErrUnit}, {"if(less(@x;1);1;2)", "", api.ErrUnit}, {"if(not(equal(@x;@u));1;2)", "", api.ErrUnit}, {"add(add(@y;@x);add(@y;@v))", "", api.ErrUnit}, {"add(mul(@y;@y);@y:')", "s-2", api.OK}, {"if(equal(@on;less(@n;@k));1;2)", "", api.ErrUnit}, {"add(@y;@y:')", "", api.ErrUnit},
		{"@on", "", api.ErrType}, {"less(@x;1)", "", api.ErrType}, {"true", "", api.ErrType}, {"initial", "", api.ErrType}, {"if(@on;@on;less(@x;@v))", "", api.ErrType},
	} {
		if got, err := measure.Of(s, expr(t, vars, c.text)); got != c.want || err != c.err {
			t.Errorf("Of %s = %q, %d; want %q, %d", c.text, got, err, c.want, c.err)
		}
	}
	long := model(t, "x:"+longUnit+" y", "eq e @y mul(@x;@x)")
	for text, want := range map[string]api.Errno{"@y": api.ErrSize, "@x:'": api.ErrSize, "div(@y;@x)": api.OK, "@x": api.OK, "div(1;@x)": api.ErrSize, "add(@y;@x)": api.ErrUnit, "less(@y;@x)": api.ErrType} {
		if got, err := measure.Of(long, expr(t, "x y", text)); err != want || (got == longUnit) != (err == api.OK) {
			t.Errorf("Of %s = %q, %d; want %d", text, got, err, want)
		}
	}
}

// The errors of the system come first, then those of the expression, then ErrType, then ErrUnit.
func TestInferErrors(t *testing.T) {
	broken := model(t, "?on x:m y:s", "eq e @x @y")
	on, x := ref("on", 0), ref("x", 0)
	deep := x
	for range api.MaxDepth {
		deep = op(api.Neg, deep)
	}
	for want, s := range unfit(t) {
		if units, name, err := measure.Infer(s); units != nil || name != "" || err != want {
			t.Errorf("Infer = %v, %q, %d; want %d", units, name, err, want)
		}
		if got, err := measure.Consistent(s); got || err != want {
			t.Errorf("Consistent = %t, %d; want %d", got, err, want)
		}
		for _, e := range []api.Expr{x, on, endless(), {}} {
			if got, err := measure.Of(s, e); got != "" || err != want {
				t.Errorf("Of = %q, %d; want %d", got, err, want)
			}
		}
	}
	for _, c := range []struct {
		e    api.Expr
		want api.Errno
	}{
		{endless(), api.ErrSize}, {deep, api.ErrSize}, {times(slices.Repeat([]api.Expr{x}, 101)...), api.ErrSize}, {api.Expr{}, api.ErrForm}, {ref("w", 0), api.ErrForm}, {ref("x", 7), api.ErrForm}, {ref("on", 1), api.ErrForm}, {op(api.Add, x), api.ErrForm}, {op(api.Add, x, on), api.ErrForm}, {num("2/4"), api.ErrForm},
		{op(api.Sample, num("0"), num("0")), api.ErrForm}, {on, api.ErrType}, {op(api.Less, x, num("1")), api.ErrType}, {x, api.ErrUnit}, {num("0"), api.ErrUnit},
	} {
		if got, err := measure.Of(broken, c.e); got != "" || err != c.want {
			t.Errorf("Of an expression with %q = %q, %d; want %d", c.e.Op, got, err, c.want)
		}
	}
}

// Systems as large as they may be, whose exponents get long on the way.
func TestInferLarge(t *testing.T) {
	s := source(1)
	names := named("x", api.MaxVars)
	for _, given := range []int{0, 1, 60, 119} {
		var sys api.System
		for i, name := range names {
			v := api.Var{Name: name}
			if i < given {
				v.Unit = "m(" + strconv.Itoa(100000001+2*s.below(100000000)) + "/2).s-3"
			}
			sys.Vars = append(sys.Vars, v)
		}
		for i, name := range named("e", api.MaxEqs-given) {
			list := make([]api.Expr, 16)
			for j := range list {
				list[j] = ref(pick(&s, names...), 0)
			}
			list[0] = ref(names[given+i], 0)
			sys.Eqs = append(sys.Eqs, api.Eq{Name: name, Left: times(list...), Right: num("1")})
		}
		units, name, err := measure.Infer(sys)
		if given == 0 && (err != api.OK || slices.ContainsFunc(units, func(u string) bool { return u != "1" })) || name != "" || given > 0 && err != api.ErrSize {
			t.Errorf("Infer with %d given units = %v, %q, %d", given, units, name, err)
		}
	}
}

// The same in all: each of a chain is the square of the next one, from a unit at its end on.
func TestInferChain(t *testing.T) {
	names := named("x", api.MaxVars)
	sys := api.System{Vars: []api.Var{{Name: names[0], Unit: "m536870912"}}} // 2 to the power of 29
	for i, name := range names[1:] {
		sys.Vars = append(sys.Vars, api.Var{Name: name})
		sys.Eqs = append(sys.Eqs, api.Eq{Name: name, Left: ref(names[i], 0), Right: op(api.Mul, ref(name, 0), ref(name, 0))})
	}
	if got, err := measure.Consistent(sys); !got || err != api.OK {
		t.Errorf("Consistent = %t, %d", got, err)
	}
	power := 536870912
	for i := range 60 {
		want := "m" + strconv.Itoa(power)
		switch {
		case i == 29:
			want = "m"
		case i > 29:
			want = "m(1/" + strconv.Itoa(1<<(i-29)) + ")"
		}
		wantErr := api.OK
		if i >= 59 {
			want, wantErr = "", api.ErrSize
		}
		if got, err := measure.Of(sys, ref(names[i], 0)); got != want || err != wantErr {
			t.Errorf("Of the unit of %d = %q, %d; want %q, %d", i, got, err, want, wantErr)
		}
		power /= 2
	}
	if _, _, err := measure.Infer(sys); err != api.ErrSize {
		t.Errorf("Infer = %d", err)
	}
	sys.Inits = []api.Eq{{Name: "i", Left: ref(names[api.MaxVars-1], 0), Right: num("1")}}
	if _, name, err := measure.Infer(sys); name != "init i" || err != api.ErrUnit {
		t.Errorf("Infer = %q, %d", name, err)
	}
}

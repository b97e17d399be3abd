package system_test

import (
	"reflect"
	"strings"
	"testing"

	"linkwork/api"
	"linkwork/system"
)

// plantText is the text of the plant.
const plantText = `var k param number value=-3/2 unit=N.m-1
var lock param truth value=false
var n discrete number start=0 fixed unit=1
var on discrete truth start=true
var u input number unit=V(1/2)
var x continuous number start=1 fixed unit=m
var y continuous number
eq e1 @x:'' neg(mul(@k;@x))
eq e2 @y if(or(pre@on;@lock);div(@u:';2);time)
init i @x:' 0
when w1 less(@x;0) assign on not(pre@on) reinit x neg(pre@x)
when w2 sample(0;1/2) assign n add(pre@n;1) reinit x 1
`

func TestText(t *testing.T) {
	if got, e := system.Text(plant()); got != plantText || e != api.OK {
		t.Errorf("Text = %s, %d", got, e)
	}
	if got, e := system.Text(api.System{}); got != "" || e != api.OK {
		t.Errorf("Text of nothing = %q, %d", got, e)
	}
	long := api.System{Vars: []api.Var{{Name: "x"}}}
	for _, name := range numbered("e", 13) {
		long.Eqs = append(long.Eqs, api.Eq{Name: name, Left: num(nines), Right: num("-" + nines)})
	}
	rest := api.MaxText - len(text(t, long)) - len("eq f 1 0\n")
	long.Eqs = append(long.Eqs, api.Eq{Name: "f", Left: num("1" + strings.Repeat("0", rest)), Right: num("0")})
	got, e := system.Text(long)
	if len(got) != api.MaxText || e != api.OK {
		t.Fatalf("Text with %d bytes: %d", len(got), e)
	}
	back, e := system.Read(got)
	if !reflect.DeepEqual(back, long) || e != api.OK {
		t.Errorf("Read of %d bytes: %d", len(got), e)
	}
	long.Eqs[13].Left.Text += "0"
	if got, e := system.Text(long); got != "" || e != api.ErrSize {
		t.Errorf("Text with %d bytes: %d", api.MaxText+1, e)
	}
	if s, e := system.Read(got + "\n"); len(s.Eqs) > 0 || e != api.ErrSize {
		t.Errorf("Read of %d bytes: %d", api.MaxText+1, e)
	}
	if s, e := system.Read(strings.Repeat("x", 1<<20)); len(s.Eqs) > 0 || e != api.ErrSize {
		t.Errorf("Read of many bytes: %d", e)
	}
}

func TestShow(t *testing.T) {
	a, b := ref("a"), num("-1/2")
	for _, c := range []struct {
		e    api.Expr
		want string
	}{
		{num("-7/3"), "-7/3"}, {truth(true), "true"}, {truth(false), "false"}, {op(api.Time), "time"}, {op(api.Initial), "initial"},
		{a, "@a"}, {der("a", 1), "@a:'"}, {der("a", 6), "@a:''''''"}, {ref("a''"), "@a''"}, {der("a'", 2), "@a':''"}, {pre("a'"), "pre@a'"}, {ref("a.b[1,2]"), "@a.b[1,2]"}, {pre("pre"), "pre@pre"}, {ref("true"), "@true"},
		{op(api.Sample, num("0"), num("1/2")), "sample(0;1/2)"}, {neg(a), "neg(@a)"}, {add(a, b), "add(@a;-1/2)"}, {sub(a, b), "sub(@a;-1/2)"}, {mul(a, b), "mul(@a;-1/2)"}, {div(a, b), "div(@a;-1/2)"},
		{choice(a, b, neg(b)), "if(@a;-1/2;neg(-1/2))"}, {op(api.Less, a, b), "less(@a;-1/2)"}, {op(api.AtMost, a, b), "atmost(@a;-1/2)"}, {op(api.More, a, b), "more(@a;-1/2)"}, {op(api.AtLeast, a, b), "atleast(@a;-1/2)"},
		{op(api.Equal, a, b), "equal(@a;-1/2)"}, {op(api.Unequal, a, b), "unequal(@a;-1/2)"}, {op(api.And, a, b), "and(@a;-1/2)"}, {op(api.Or, a, b), "or(@a;-1/2)"}, {op(api.Not, a), "not(@a)"},
	} {
		if got, e := system.Show(c.e); got != c.want || e != api.OK {
			t.Errorf("Show = %q, %d; want %q", got, e, c.want)
		}
	}
	terms := make([]api.Expr, 26)
	for i := range terms {
		terms[i] = num(nines)
	}
	most, _ := system.Show(sum(terms...))
	rest := api.MaxText - len(most) - len("add(;)")
	whole := add(sum(terms...), num(nines[:rest]))
	got, e := system.Show(whole)
	if len(got) != api.MaxText || e != api.OK {
		t.Fatalf("Show with %d bytes, not %d: %d", len(got), api.MaxText, e)
	}
	whole.Kids[1].Text += "9"
	if got, e := system.Show(whole); got != "" || e != api.ErrSize {
		t.Errorf("Show with %d bytes: %d", api.MaxText+1, e)
	}
}

func TestRead(t *testing.T) {
	got, e := system.Read(plantText)
	if !reflect.DeepEqual(got, plant()) || e != api.OK {
		t.Errorf("Read = %v, %d", got, e)
	}
	if got, e := system.Read(""); len(got.Vars)+len(got.Eqs)+len(got.Inits)+len(got.Whens) != 0 || e != api.OK {
		t.Errorf("Read of nothing = %v, %d", got, e)
	}
	lines := "var a continuous number\nvar c discrete truth\neq e " +
		"if(or(and(less(@a;1);atmost(@a;-1/2));not(or(more(@a;2);atleast(@a;3))));if(or(equal(@a;@a);unequal(@c;pre@c));add(sub(1;@a);mul(@a:" + strings.Repeat("'", 6) + ";pre@a));0);div(1;2)) " +
		"if(or(initial;sample(-1/2;1/3));if(and(true;false);time;neg(time));4)\n"
	all, e := system.Read(lines)
	if e != api.OK || text(t, all) != lines {
		t.Fatalf("Read of all operators: %d", e)
	}
	a := ref("a")
	left := choice(op(api.Or, op(api.And, op(api.Less, a, num("1")), op(api.AtMost, a, num("-1/2"))), op(api.Not, op(api.Or, op(api.More, a, num("2")), op(api.AtLeast, a, num("3"))))),
		choice(op(api.Or, op(api.Equal, a, a), op(api.Unequal, ref("c"), pre("c"))), add(sub(num("1"), a), mul(der("a", 6), pre("a"))), num("0")), div(num("1"), num("2")))
	right := choice(op(api.Or, op(api.Initial), op(api.Sample, num("-1/2"), num("1/3"))), choice(op(api.And, truth(true), truth(false)), op(api.Time), neg(op(api.Time))), num("4"))
	if !reflect.DeepEqual(all.Eqs[0], api.Eq{Name: "e", Left: left, Right: right}) {
		t.Errorf("Read of all operators = %v", all.Eqs[0])
	}
}

// The text of a system that is larger than a limit is ErrForm, as that of no valid system.
func TestReadLimits(t *testing.T) {
	lines := func(line string, count int) string {
		text := "var x continuous number\n"
		for _, name := range numbered("", count) {
			text += strings.Replace(line, "#", name, 1)
		}
		return text
	}
	wideText := func(size int) string {
		text, _ := system.Show(wide(size))
		return text
	}
	for _, c := range []struct {
		text string
		want api.Errno
	}{
		{lines("var z# continuous number\n", 119), api.OK}, {lines("var z# continuous number\n", 120), api.ErrForm},
		{lines("eq e# 0 0\n", 120), api.OK}, {lines("eq e# 0 0\n", 121), api.ErrForm}, {lines("init e# 0 0\n", 120), api.OK}, {lines("init e# 0 0\n", 121), api.ErrForm},
		{lines("when w# true reinit x 0\n", 120), api.OK}, {lines("when w# true reinit x 0\n", 121), api.ErrForm},
		{"eq e " + strings.Repeat("neg(", 23) + "1" + strings.Repeat(")", 23) + " 0\n", api.OK}, {"eq e " + strings.Repeat("neg(", 24) + "1" + strings.Repeat(")", 24) + " 0\n", api.ErrForm},
		{"eq e 0 " + strings.Repeat("neg(", 1500) + "1" + strings.Repeat(")", 1500) + "\n", api.ErrForm}, {"eq e 0 " + strings.Repeat("(", 7900) + "\n", api.ErrForm},
		{"eq e 0 " + wideText(200) + "\n", api.OK}, {"eq e 0 " + wideText(201) + "\n", api.ErrForm}, {"eq e 0 add(" + strings.Repeat("1;", 3000) + "1)\n", api.ErrForm},
	} {
		if _, e := system.Read(c.text); e != c.want {
			t.Errorf("Read of %.60q and so on: %d, want %d", c.text, e, c.want)
		}
	}
}

// A text that is like one of a system, but is none, is not read.
func TestReadMalformed(t *testing.T) {
	for _, c := range []struct{ old, new string }{
		{"y continuous number\n", "y continuous number"}, {"y continuous number\n", "y continuous number\n\n"}, {"y continuous number\n", "y continuous number\r\n"}, {"y continuous number\n", "y continuous number \n"},
		{"y continuous", "y  continuous"}, {"y continuous", "y\tcontinuous"}, {"var y", " var y"}, {"var y", "Var y"}, {"var y", "y"}, {"var y continuous number\n", "var y continuous\n"}, {"var y continuous number\n", "var y\n"}, {"var y continuous number\n", "var\n"}, {"var y continuous number\n", "\n"}, {"var y continuous number\n", "var \n"},
		{"y continuous", "y Continuous"}, {"y continuous", "y state"}, {"y continuous number", "y number continuous"}, {"y continuous number", "y continuous real"}, {"y continuous number", "y continuous"}, {"y continuous number", "y continuous truth"},
		{"start=1 fixed unit=m", "fixed start=1 unit=m"}, {"start=1 fixed unit=m", "start=1 unit=m fixed"}, {"start=1 fixed unit=m", "start=1 fixed fixed unit=m"}, {"start=1 fixed unit=m", "start=1 start=1 fixed unit=m"}, {"start=1 fixed unit=m", "start=1 fixed=true unit=m"},
		{"start=1 fixed unit=m", "start= fixed unit=m"}, {"start=1 fixed unit=m", "start=1 fixed unit="}, {"start=1 fixed unit=m", "value= start=1 fixed unit=m"}, {"start=1 fixed unit=m", "start=01 fixed unit=m"}, {"start=1 fixed unit=m", "fixed unit=m"}, {"start=1 fixed unit=m", "start=1 fixed unit=m more"},
		{"value=-3/2", "-3/2"}, {"value=-3/2", "value=-6/4"}, {"value=false", "value=False"}, {"value=false", "value=0"}, {"value=-3/2", "value=+3/2"},
		{"var x", "var z"}, {"var k", "var K k"}, {"eq e1", "eq e3"}, {"eq e1", "eq"}, {"eq e1", "equation e1"}, {"eq e1", "init e1"}, {"eq e1", "eq e1 e1"}, {"eq e2", "eq e1"}, {"eq e1 @x:'' ", "eq e1 "}, {"eq e1 @x:'' ", "eq e1 @x:''"}, {"eq e1 @x:'' ", "eq e1 = @x:'' "},
		{"@x:'' ", "@x:\" "}, {"@x:'' ", "@x: "}, {"@x:'' ", "x:'' "}, {"@x:'' ", "@x:'2 "}, {"@x:'' ", "@x:': "}, {"@x:'' ", "@ "}, {"@x:'' ", "@@x "}, {"@x:'' ", "der(@x) "}, {"@x:'' ", "var@x "}, {"@x:'' ", "pre@x:' "}, {"@x:'' ", "@x() "}, {"@x:'' ", "@z "},
		{"neg(mul(@k;@x))", "neg(mul(@k;@x)"}, {"neg(mul(@k;@x))", "neg(mul(@k;@x)))"}, {"neg(mul(@k;@x))", "neg(mul(@k,@x))"}, {"neg(mul(@k;@x))", "neg(mul(@k;;@x))"}, {"neg(mul(@k;@x))", "neg(mul(@k;@x;))"}, {"neg(mul(@k;@x))", "neg(mul(;@k;@x))"}, {"neg(mul(@k;@x))", "neg(mul(@k; @x))"},
		{"neg(mul(@k;@x))", "neg((mul(@k;@x)))"}, {"neg(mul(@k;@x))", "(neg(mul(@k;@x)))"}, {"neg(mul(@k;@x))", "neg(mul(@k;@x))0"}, {"neg(mul(@k;@x))", "neg(mul(@k;@x)0)"}, {"neg(mul(@k;@x))", "Neg(mul(@k;@x))"}, {"neg(mul(@k;@x))", "neg(times(@k;@x))"}, {"neg(mul(@k;@x))", "neg()"}, {"neg(mul(@k;@x))", "neg"}, {"neg(mul(@k;@x))", "neg("}, {"neg(mul(@k;@x))", "neg(1;"}, {"neg(mul(@k;@x))", ")"}, {"neg(mul(@k;@x))", ";"}, {"neg(mul(@k;@x))", "1;"}, {"neg(mul(@k;@x))", "1)"},
		{"neg(mul(@k;@x))", "num(1)"}, {"neg(mul(@k;@x))", "1()"}, {"neg(mul(@k;@x))", "time()"}, {"neg(mul(@k;@x))", "1/1"}, {"neg(mul(@k;@x))", "-0"}, {"neg(mul(@k;@x))", "true"}, {"neg(mul(@k;@x))", "mul(@k;@on)"}, {"neg(mul(@k;@x))", "neg(@k;@x)"}, {"neg(mul(@k;@x))", "mul(@k)"},
		{"less(@x;0)", "1"}, {"less(@x;0)", "less(@x;0) and true"}, {"assign on not(pre@on)", "assign on"}, {"assign on not(pre@on)", "assign on on not(pre@on)"}, {"assign on not(pre@on)", "set on not(pre@on)"}, {"assign on not(pre@on)", "reinit on not(pre@on)"}, {"assign on not(pre@on)", "assign on 1"}, {"assign on not(pre@on)", "assign on not(pre@on"},
		{" assign on not(pre@on) reinit x neg(pre@x)", ""}, {"when w1 less(@x;0) assign on not(pre@on) reinit x neg(pre@x)", "when w1"}, {"sample(0;1/2)", "sample(0;0)"}, {"sample(0;1/2)", "sample(@x;1/2)"}, {"sample(0;1/2)", "sample("},
		{"init i @x:' 0\n", "when w0 true reinit x 0\ninit i @x:' 0\n"}, {"eq e1", "init h 0 0\neq e1"}, {"var y continuous number\n", "eq a 0 0\nvar y continuous number\n"},
	} {
		text := strings.Replace(plantText, c.old, c.new, 1)
		if text == plantText {
			t.Fatalf("the text of the plant does not have %q", c.old)
		}
		if s, e := system.Read(text); e != api.ErrForm || len(s.Vars)+len(s.Eqs)+len(s.Inits)+len(s.Whens) > 0 {
			t.Errorf("Read with %q instead of %q: %d", c.new, c.old, e)
		}
	}
}

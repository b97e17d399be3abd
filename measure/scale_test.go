package measure_test

import (
	"reflect"
	"slices"
	"strings"
	"testing"

	"linkwork/api"
	"linkwork/measure"
)

// words are a list that is written with blanks between.
func words(text string) []string {
	return strings.Fields(text)
}

func TestScale(t *testing.T) {
	const vars = "=k:V(1/2) #n:m ?on !u:kg2.s-1 v x:m y:1 z"
	s := model(t, vars, "eq e @v @x:'")
	for _, c := range []struct{ symbols, factors, time, binds, want string }{
		{"", "", "7", "@n=1 @x=3", "7 1 3"}, {"m", "100", "7", "@n=1/3 @v=2 @x=3", "7 100/3 200 300"}, {"s", "1/2", "7", "@v=2 @x=3", "7/2 4 3"}, {"m s", "100 1/2", "2", "@v=3 @x=5", "1 600 500"}, {"kg m", "3 2", "-1", "@u=5 @x=1 @y=4", "-1 45 2 4"},
		// derivatives and pre, negative numbers and 0
		{"m s", "3 2", "0", "@v=1 @v:'=1 @v:''=8 pre@v=1 @x=0 @x:'=-7 @x:''''''=64 pre@x=1", "0 3/2 3/4 3 3/2 0 -21/2 3 3"}, {"kg s", "1/3 1/2", "-4", "@u=18 @u:'=18 pre@u=9", "-2 4 8 2"},
		// symbols that no unit has; one of a symbol of the same letters
		{"M ab k mm ss zzzzzzzz", "2 3 5 7 11 13", "1", "@n=1 @v=1 @x=1", "1 1 1 1"}, {"g kg", "5 7", "1", "@u=1", "1 49"},
		// truths stay, also those of a number, and numbers of a truth
		{"m s", "3 2", "1", "@n=true @on=false pre@on=true @v=1", "2 true false true 3/2"}, {"m s", "3 2", "1", "@on=5 @x=1", "2 5 3"},
		// Variables that are not bound may have any units.
		{"V s", "4 9", "1", "@y=1", "9 1"}, {"V s", "4 9", "1", "", "9"},
	} {
		env := at(t, vars, c.time, words(c.binds)...)
		got, err := measure.Scale(s, env, words(c.symbols), words(c.factors))
		if err != api.OK || values(got) != c.want {
			t.Errorf("Scale of %s at %s by %s of %s = %s, %d; want %s", c.binds, c.time, c.factors, c.symbols, values(got), err, c.want)
			continue
		}
		for i, b := range got.Binds {
			if b.Use != env.Binds[i].Use {
				t.Errorf("Scale of %s has %v", c.binds, b.Use)
			}
		}
	}
}

// Whether it is the time of initialization stays; the environment that was given does, too, and shares nothing.
func TestScaleMemory(t *testing.T) {
	s := model(t, "on x:m")
	s.Vars[0].Kind, s.Vars[0].Type = api.Discrete, api.Truth
	for _, factor := range []string{"1", "2"} {
		for _, initial := range []bool{false, true} {
			env := at(t, "?on x", "1", "@on=true", "@x=3")
			env.Initial = initial
			symbols, factors := words("m"), words(factor)
			got, err := measure.Scale(s, env, symbols, factors)
			if err != api.OK || got.Initial != initial {
				t.Fatalf("Scale = %v, %d", got, err)
			}
			if env.Initial != initial || values(env) != "1 true 3" || symbols[0] != "m" || factors[0] != factor {
				t.Errorf("Scale changed %v, %v, %v", env, symbols, factors)
			}
			before := values(got)
			env.Binds[0].Value, env.Binds[1].Use.Name = "false", "y"
			if values(got) != before || got.Binds[1].Use.Name != "x" {
				t.Errorf("Scale by %s returns memory of its argument", factor)
			}
		}
	}
	if got, err := measure.Scale(s, api.Env{Time: "0"}, nil, nil); err != api.OK || !reflect.DeepEqual(got, api.Env{Time: "0"}) {
		t.Errorf("Scale of nothing = %v, %d", got, err)
	}
}

// A bound variable's unit must be known, and have integers from -100 to 100 as exponents, whatever symbols are given.
func TestScaleUnits(t *testing.T) {
	for _, c := range []struct {
		vars, lines, binds string
		want               api.Errno
	}{
		{"x:m100", "", "@x=1", api.OK}, {"x:m-100", "", "@x=1", api.OK}, {"x:m101", "", "@x=1", api.ErrUnit}, {"x:m-101", "", "@x=1", api.ErrUnit}, {"x:m101", "", "", api.OK}, {"x:m999999999", "", "@x=1", api.ErrUnit}, {"x:m(1/2)", "", "@x=1", api.ErrUnit}, {"x:m(201/2)", "", "@x=1", api.ErrUnit}, {"x:m(-1/999999999)", "", "@x=1", api.ErrUnit},
		{"x:b.k101.m", "", "@x=1", api.ErrUnit}, {"x:b(1/2).m", "", "@x=1", api.ErrUnit}, {"x:m.z-101", "", "@x=0", api.ErrUnit}, {"x:m101", "", "@x=0", api.ErrUnit}, {"x:m101", "", "pre@x=1", api.ErrUnit}, {"x:m101", "", "@x:'=1", api.ErrUnit}, {"x:m101", "", "@x=true", api.ErrUnit}, {"x:s101", "", "@x:'=1", api.ErrUnit},
		{"x:s-100", "", "@x:''''''=1", api.OK}, {"x:s100", "", "@x:''''''=1", api.OK}, {"x:s-101", "", "@x:''''''=1", api.ErrUnit}, {"x", "", "@x=1", api.ErrUnit}, {"x", "", "@x=0", api.ErrUnit}, {"x", "", "", api.OK}, {"x", "eq e @x 0", "@x=1", api.ErrUnit}, {"x", "eq e @x 1", "@x=1", api.OK}, {"x", "eq e @x 1", "@x:'=1", api.OK},
		{"x:m y", "eq e mul(@y;@y) @x", "@x=1", api.OK}, {"x:m y", "eq e mul(@y;@y) @x", "@x=1 @y=1", api.ErrUnit}, {"x:m y z", "eq e mul(@y;@z) @x", "@x=1", api.OK}, {"x:m y z", "eq e mul(@y;@z) @x", "@x=1 @z=1", api.ErrUnit}, {"x:m50 y", "eq e mul(@x;@x) @y", "@x=1 @y=1", api.OK}, {"x:m51 y", "eq e mul(@x;@x) @y", "@x=1 @y=1", api.ErrUnit},
		{"x:m y:s", "eq e @x @y", "", api.ErrUnit}, {"x:m y:s", "when w less(@x;@y) reinit x 0", "", api.ErrUnit}, {"x:" + longUnit, "", "", api.OK}, {"?on x", "", "@on=true", api.OK}, {"?on x", "", "@on=5", api.OK},
		// A unit that is too long for Infer is none for Scale.
		{"x:abcdefgh100.bcdefghi100.cdefghij100.defghijk100.efghijkl100.fghijklm100 y:g100.h100.i100.j100 z", "eq e @z mul(@x;@y)", "@x=1 @y=1 @z=1", api.OK}, {"x:abcdefgh100.bcdefghi100.cdefghij100.defghijk100.efghijkl100.fghijklm100 y:g100.h100.i100.j100 z", "eq e mul(@z;@z) mul(@x;@y)", "@x=1 @y=1 @z:'=1", api.OK},
		{"x:abcdefgh.bcdefghi.cdefghij.defghijk.efghijkl.fghijklm y:g.h.i.j.k.l z", "eq e mul(@z;@z) mul(@x;@y)", "@z=1", api.ErrUnit}, {"x:m1000000 y z", "eq e @y mul(mul(@x;@x);mul(mul(@x;@x);mul(@x;@x)))\neq f @z div(@y;mul(mul(@x;@x);mul(mul(@x;@x);@x)))", "@z=1", api.ErrUnit},
	} {
		s := model(t, c.vars, c.lines)
		env := at(t, c.vars, "0", words(c.binds)...)
		for _, symbols := range []string{"", "m", "b m s zz"} {
			got, err := measure.Scale(s, env, words(symbols), slices.Repeat([]string{"1"}, len(words(symbols))))
			if err != c.want || err == api.OK && values(got) != values(env) || err != api.OK && !reflect.DeepEqual(got, api.Env{}) {
				t.Errorf("Scale of %s by %q with %s, %s = %s, %d; want %d", c.binds, symbols, c.vars, c.lines, values(got), err, c.want)
			}
		}
	}
	// Infer cannot write the unit of z.
	s := model(t, "x:abcdefgh.bcdefghi.cdefghij.defghijk.efghijkl.fghijklm y:g.h.i.j.k.l.m.n.o.p.q.r.t.u.v z", "eq e mul(@z;@y) mul(mul(@x;@y);mul(@y;@y))")
	if _, _, err := measure.Infer(s); err != api.ErrSize {
		t.Fatalf("Infer: %d", err)
	}
	got, err := measure.Scale(s, at(t, "x y z", "1", "@x=1", "@y=1", "@z=1"), words("abcdefgh g v"), words("2 3 5"))
	if err != api.OK || values(got) != "1 2 15 450" {
		t.Errorf("Scale = %s, %d", values(got), err)
	}
}

// R7: only a Time and values that are returned may not have too many digits; powers on the way may.
func TestScaleLong(t *testing.T) {
	const vars = "b:A100.B-100 c:A100.B-99 f:A100.B-100.C100.D-100.E100.F-100.G100.H-100.I100.J-100 h:A63.B-64.C63.D-64.E63.F-64.G63.H-64.I63.J-64 m:m100 n:m-100 s:s-100 x:m"
	s := model(t, vars)
	tall := "1" + strings.Repeat("0", 200) // its square is no number
	long := "1" + strings.Repeat("3", 299)
	steps := power("10000", 64) + " " + power("10000", 63) + " " // to the power of 63, and of -64: 1
	for _, c := range []struct{ symbols, factors, time, binds, want string }{
		{"m", nines, "0", "@x=1", "0 " + nines}, {"m", nines, "0", "@x=2", ""}, {"m", nines, "0", "@x=1/" + nines, "0 1"}, {"m", tall, "0", "@x=" + tall, ""}, {"m", "1/" + tall, "0", "@x=1/" + tall, ""}, {"m", tall, "0", "@x=1/" + tall, "0 1"}, {"m", "1/" + tall, "0", "@x=" + tall, "0 1"},
		{"m", tall, "0", "@m=0", "0 0"}, {"m", tall, "0", "@m=1", ""}, {"m", tall, "0", "@n=1", ""}, {"m", tall, "0", "@n=0 @x=0", "0 0 0"}, {"m", "8", "0", "@m=1 @n=1", "0 " + power("8", 100) + " 1/" + power("8", 100)}, {"m", "1000", "0", "@m=1", ""}, {"m", "1000", "0", "@m=1/10", "0 1" + strings.Repeat("0", 299)},
		{"m", "1/1000", "0", "@n=-3/10", "0 -3" + strings.Repeat("0", 299)}, {"m", "1000000/999999", "0", "@m=1", ""}, {"m", "1000/999", "0", "@m=" + fraction(power("999", 100), "1"+strings.Repeat("0", 299)), "0 10"},
		{"A B", long + " " + long, "0", "@b=7", "0 7"}, {"A B", long + " " + long, "0", "@c=1", "0 " + long}, {"A B", long + " " + long, "0", "@c=2 @x=0", "0 2" + strings.ReplaceAll(long[1:], "3", "6") + " 0"}, {"A B", long + " " + long, "0", "@c=8", ""}, {"A B", "1/" + long + " 1/" + long, "0", "@c=5", "0 5/" + long},
		{"A B", fraction(long, tall) + " " + fraction(long, tall), "0", "@b=7/2", "0 7/2"}, {"A B", long + " 1" + long[:299], "0", "@b=1", ""}, {"A B", long + " " + nines, "0", "@b=1 @c=0", ""},
		{"A B C D E F G H I J", strings.Repeat(long+" "+long+" ", 5), "0", "@f=5", "0 5"}, {"A B C D E F G H I J", strings.Repeat(long+" "+nines+" ", 2) + strings.Repeat(nines+" "+long+" ", 2) + "1 1", "0", "@f=5", "0 5"}, {"A B C D E F G H I J", strings.Repeat(long+" "+nines+" ", 5), "0", "@f=5", ""},
		{"A B C D E F G H I J", strings.Repeat(steps, 5), "0", "@h=5", "0 5"}, {"A B C D E F G H I J", strings.Repeat(steps, 4) + power("10000", 64) + " 1", "0", "@h=5", ""},
		{"s", "10", "1" + strings.Repeat("0", 299), "@x=1", ""}, {"s", "1/10", "1" + strings.Repeat("0", 299), "@x=1", "1" + strings.Repeat("0", 298) + " 1"}, {"s", tall, "0", "@x=1 @x:'=1 @x:''=0", "0 1 1/" + tall + " 0"}, {"s", tall, "0", "@x:''=1", ""}, {"s", "2", "0", "@s=1 @s:''''''=1", "0 1/" + power("2", 100) + " 1/" + power("2", 106)},
	} {
		env := at(t, vars, c.time, words(c.binds)...)
		want := api.OK
		if c.want == "" {
			want = api.ErrSize
		}
		got, err := measure.Scale(s, env, words(c.symbols), words(c.factors))
		if err != want || err == api.OK && values(got) != c.want || err != api.OK && !reflect.DeepEqual(got, api.Env{}) {
			t.Errorf("Scale of %.60s by %.60s of %s = %.60s, %d; want %.60s, %d", c.binds, c.factors, c.symbols, values(got), err, c.want, want)
		}
	}
}

// The errors, in their order.
func TestScaleErrors(t *testing.T) {
	s := model(t, "?on x:m y:1")
	broken := model(t, "?on x:m y:s", "eq e @x @y")
	good := at(t, "x", "1", "@x=2")
	unknown := at(t, "w x", "1", "@w=2", "@x=2")
	many := api.Env{Time: "none"}
	for _, name := range named("x", api.MaxBinds+1) {
		many.Binds = append(many.Binds, api.Bind{Use: api.Use{Name: name}, Value: "1"})
	}
	malformed := api.Env{Time: "1", Binds: []api.Bind{good.Binds[0], good.Binds[0]}}
	check := func(s api.System, env api.Env, symbols, factors []string, want api.Errno) {
		t.Helper()
		if got, err := measure.Scale(s, env, symbols, factors); err != want || !reflect.DeepEqual(got, api.Env{}) {
			t.Errorf("Scale by %.60q of %.60q = %v, %d; want %d", factors, symbols, got, err, want)
		}
	}
	for want, s := range unfit(t) {
		check(s, many, []string{""}, nil, want)
		check(s, good, words("m"), words("2"), want)
	}
	check(broken, many, []string{""}, nil, api.ErrSize)
	for _, env := range []api.Env{{}, {Time: "2/2"}, malformed, {Time: "0", Binds: []api.Bind{{Use: api.Use{Name: "x", Order: 7}, Value: "1"}}}, {Time: "0", Binds: []api.Bind{{Use: api.Use{Name: "x"}, Value: "m"}}}} {
		check(broken, env, []string{""}, nil, api.ErrForm)
		check(s, env, nil, words("0"), api.ErrForm)
	}
	for _, symbols := range [][]string{{""}, {"m", ""}, {"m2"}, {"1"}, {"abcdefghi"}, {"m", "m"}, {"s", "m"}, {"m", "M"}, {"µ"}, {"m.s"}, {"m "}} {
		check(broken, unknown, symbols, slices.Repeat([]string{"2"}, len(symbols)), api.ErrForm)
		check(broken, unknown, symbols, nil, api.ErrForm)
		check(s, good, symbols, words("0 0 0"), api.ErrForm)
	}
	for _, factor := range []string{"", "2/4", "x", "-0", "true", "1" + nines, "1.5"} {
		check(broken, unknown, words("m"), []string{factor}, api.ErrForm)
		check(s, good, words("m s"), []string{"-1", factor}, api.ErrForm)
		check(s, good, nil, []string{factor}, api.ErrForm)
	}
	for _, c := range []struct{ symbols, factors string }{{"m", ""}, {"", "2"}, {"m s", "2"}, {"m", "2 2"}, {"m", "0"}, {"m", "-1"}, {"m s", "1 -1/2"}, {"m s", "0 1"}, {"zz", "0"}, {"m", "0 1"}} {
		check(broken, unknown, words(c.symbols), words(c.factors), api.ErrArg)
		check(s, good, words(c.symbols), words(c.factors), api.ErrArg)
	}
	check(broken, unknown, words("m"), words("2"), api.ErrName)
	check(s, unknown, words("m"), words(nines), api.ErrName)
	check(s, at(t, "X x", "1", "@x=2", "@X=3"), nil, nil, api.ErrName)
	check(broken, good, words("m"), words("2"), api.ErrUnit)
	check(broken, good, words("m"), words(nines), api.ErrUnit)
	check(model(t, "x:m y"), at(t, "x y", "1", "@x=2", "@y=1"), words("m"), words(nines), api.ErrUnit)
	check(s, good, words("m"), words(nines), api.ErrSize)
}

package measure_test

import (
	"strings"
	"testing"

	"linkwork/api"
	"linkwork/measure"
	"linkwork/system"
)

// longUnit is a unit of so many bytes as there may be.
const longUnit = "a-999999999.b(999999999/999999998).c(-1/2).dddddddd.eeeeeeee.ffffffff.g123456.hh"

func units() []string {
	return []string{
		"1", "m", "s-2", "true", "V(1/2)", "kg.m2.s-2", "A-1.V", "m-1", "m2", "m10", "m-3", "m(-1/2)", "m(3/2)", "Z.a", "M.m", "abcdefgh", "abcdefgh-1", "a.aa", "ab.b", "aB.ab",
		"m999999999", "m-999999999", "m(1/999999999)", "m(-999999999/2)", "m(999999998/999999999)", longUnit,
	}
}

func notUnits() []string {
	return []string{
		"", "0", "2", "-1", "1/2", "1.m", "m.1", "1.1", "11", "m1", "m0", "m-0", "m00", "m01", "m-01", "m+1", "m(2)", "m(1)", "m(0)", "m(-1)", "m1/2", "m(1/2", "m1/2)", "m((1/2))", "m(2/4)", "m(1/1)", "m()", "m(",
		"m)", "(1/2)", "(m)", "m(1/2)2", "m2(1/2)", "m(1/2)s", "m2s", "m.", ".m", "m..s", ".", "s.m", "m.m", "m.m2", "b.a", "a.B", "ab.aB", "m-", "m--1", "m- 1", " m", "m ", "m s", "m*s", "m/s", "m^2", "m_2", "m\n", "mé", "µ", "m.µ", "m\x00", "m\xff",
		"toolongsy", "toolongsym", "toolongsy2", "m1000000000", "m-1000000000", "m(1000000000/3)", "m(-1/1000000000)", "m1.5", "m1e2", "m(x)", "m-(1/2)", "m(+1/2)", longUnit + "h", "i." + longUnit, strings.Repeat("m", 90), strings.Repeat("m.", 5000),
	}
}

func TestIs(t *testing.T) {
	if len(longUnit) != api.MaxName {
		t.Fatalf("the long unit has %d bytes", len(longUnit))
	}
	check := func(list []string, want bool) {
		for _, u := range list {
			if got := measure.Is(u); got != want {
				t.Errorf("Is(%q) = %t", u, got)
			}
			// What a variable may have as its unit is the same (but for no unit).
			if err := system.Check(api.System{Vars: []api.Var{{Name: "x", Unit: u}}}); u != "" && (err == api.OK) != want {
				t.Errorf("Check of chapter 2 with the unit %q: %d", u, err)
			}
		}
	}
	check(units(), true)
	check(notUnits(), false)
}

func TestMulDiv(t *testing.T) {
	for _, c := range []struct{ u, v, product, quotient string }{
		{"1", "1", "1", "1"}, {"m", "1", "m", "m"}, {"1", "m", "m", "m-1"}, {"m", "m", "m2", "1"}, {"m.s-1", "s", "m", "m.s-2"}, {"V", "A", "A.V", "A-1.V"}, {"m", "M", "M.m", "M-1.m"},
		{"kg.m2.s-2", "m-2", "kg.s-2", "kg.m4.s-2"}, {"V(1/2)", "V(1/2)", "V", "1"}, {"V(1/2)", "V(1/3)", "V(5/6)", "V(1/6)"}, {"V(1/2)", "V(-1/2)", "1", "V"}, {"V(3/2)", "V", "V(5/2)", "V(1/2)"}, {"a.b.c", "a-1.b.c-1", "b2", "a2.c2"},
		{"b", "a.c", "a.b.c", "a-1.b.c-1"}, {"m999999998", "m", "m999999999", "m999999997"}, {"m-999999998", "m-1", "m-999999999", "m-999999997"}, {"m(1/3)", "m(2/3)", "m", "m(-1/3)"}, {"ab.c", "a.bc", "a.ab.bc.c", "a-1.ab.bc-1.c"},
	} {
		if got, err := measure.Mul(c.u, c.v); got != c.product || err != api.OK {
			t.Errorf("Mul(%s, %s) = %q, %d; want %s", c.u, c.v, got, err, c.product)
		}
		if got, err := measure.Div(c.u, c.v); got != c.quotient || err != api.OK {
			t.Errorf("Div(%s, %s) = %q, %d; want %s", c.u, c.v, got, err, c.quotient)
		}
	}
}

func TestPow(t *testing.T) {
	for _, c := range []struct{ u, n, want string }{
		{"m", "2", "m2"}, {"m", "1", "m"}, {"m", "0", "1"}, {"m", "-1", "m-1"}, {"m", "1/2", "m(1/2)"}, {"m2", "1/2", "m"}, {"V(1/2).s", "2", "V.s2"}, {"kg.m2.s-2", "-3/2", "kg(-3/2).m-3.s3"}, {"m(2/3)", "3/2", "m"}, {"m(-2/3)", "3/2", "m-1"},
		{"1", "5", "1"}, {"1", "0", "1"}, {"1", nines, "1"}, {"1", "-1/" + nines, "1"}, {longUnit, "0", "1"}, {longUnit, "1", longUnit}, {"m", "999999999", "m999999999"}, {"m", "-1/999999999", "m(-1/999999999)"}, {"m999999999", "1/999999999", "m"},
	} {
		if got, err := measure.Pow(c.u, c.n); got != c.want || err != api.OK {
			t.Errorf("Pow(%s, %s) = %q, %d; want %s", c.u, c.n, got, err, c.want)
		}
	}
}

func TestExponent(t *testing.T) {
	for _, c := range []struct{ u, symbol, want string }{
		{"kg.m2.s-2", "kg", "1"}, {"kg.m2.s-2", "m", "2"}, {"kg.m2.s-2", "s", "-2"}, {"kg.m2.s-2", "g", "0"}, {"kg.m2.s-2", "k", "0"}, {"kg.m2.s-2", "M", "0"}, {"1", "m", "0"}, {"V(1/2)", "V", "1/2"}, {"V(1/2)", "v", "0"},
		{longUnit, "a", "-999999999"}, {longUnit, "b", "999999999/999999998"}, {longUnit, "c", "-1/2"}, {longUnit, "dddddddd", "1"}, {longUnit, "ddddddd", "0"}, {longUnit, "zzzzzzzz", "0"},
	} {
		if got, err := measure.Exponent(c.u, c.symbol); got != c.want || err != api.OK {
			t.Errorf("Exponent(%s, %s) = %q, %d; want %s", c.u, c.symbol, got, err, c.want)
		}
	}
	for _, symbol := range []string{"", "m2", "1", "m.s", "abcdefghi", "µ", " m", "m\x00", "-", "m(1/2)"} {
		if got, err := measure.Exponent("m", symbol); got != "" || err != api.ErrForm {
			t.Errorf("Exponent of %q = %q, %d", symbol, got, err)
		}
	}
}

func TestUnitErrors(t *testing.T) {
	wrong := func(name, got string, err, want api.Errno) {
		t.Helper()
		if got != "" || err != want {
			t.Errorf("%s = %q, %d; want %d", name, got, err, want)
		}
	}
	for _, u := range notUnits() {
		for _, v := range []string{"m", longUnit, "m."} {
			got, err := measure.Mul(u, v)
			wrong("Mul("+u+", "+v+")", got, err, api.ErrForm)
			got, err = measure.Mul(v, u)
			wrong("Mul("+v+", "+u+")", got, err, api.ErrForm)
			got, err = measure.Div(u, v)
			wrong("Div("+u+", "+v+")", got, err, api.ErrForm)
			got, err = measure.Div(v, u)
			wrong("Div("+v+", "+u+")", got, err, api.ErrForm)
		}
		got, err := measure.Pow(u, "2")
		wrong("Pow("+u+", 2)", got, err, api.ErrForm)
		got, err = measure.Pow(u, "0")
		wrong("Pow("+u+", 0)", got, err, api.ErrForm)
		got, err = measure.Exponent(u, "m")
		wrong("Exponent of "+u, got, err, api.ErrForm)
	}
	for _, n := range []string{"", "2/4", "-0", "1.5", "m", "true", "1" + nines, "1/0", " 1"} {
		got, err := measure.Pow("m", n)
		wrong("Pow(m, "+n+")", got, err, api.ErrForm)
		got, err = measure.Pow("1", n)
		wrong("Pow(1, "+n+")", got, err, api.ErrForm)
	}
}

// A result that is no unit, since an exponent has too many digits, or it has too many bytes, is too large.
func TestUnitSize(t *testing.T) {
	wrong := func(name, got string, err api.Errno) {
		t.Helper()
		if got != "" || err != api.ErrSize {
			t.Errorf("%s = %q, %d", name, got, err)
		}
	}
	for _, c := range []struct{ u, v, inverse string }{
		{"m999999999", "m", "m-1"}, {"m-999999999", "m-1", "m"}, {"m(1/999999999)", "m(1/2)", "m(-1/2)"}, {"m(1/999999999)", "m", "m-1"}, {"m999999998", "m2", "m-2"}, {"m500000000.s", "m500000000.t", "m-500000000.t-1"},
		{longUnit, "z", "z-1"}, {longUnit, "hh", "hh-1"}, {longUnit, "aa", "aa-1"}, {longUnit, "a-1", "a"}, {longUnit, longUnit, ""}, {"A", longUnit, ""},
	} {
		got, err := measure.Mul(c.u, c.v)
		wrong("Mul("+c.u+", "+c.v+")", got, err)
		got, err = measure.Mul(c.v, c.u)
		wrong("Mul("+c.v+", "+c.u+")", got, err)
		if c.inverse != "" {
			got, err = measure.Div(c.u, c.inverse)
			wrong("Div("+c.u+", "+c.inverse+")", got, err)
		}
	}
	got, err := measure.Div("1", longUnit)
	wrong("Div(1, "+longUnit+")", got, err)
	for _, c := range []struct{ u, n string }{
		{"m", "1000000000"}, {"m", "-1/1000000000"}, {"m2", "500000000"}, {"m(1/2)", "1/500000000"}, {"m", nines}, {"m", "1/" + nines}, {"m999999999", nines}, {longUnit, "2"}, {longUnit, "-1"}, {"m.s999999999", "2"},
	} {
		got, err = measure.Pow(c.u, c.n)
		wrong("Pow("+c.u+", "+c.n+")", got, err)
	}
	if got, err := measure.Mul(longUnit, "g"); got != strings.Replace(longUnit, "g123456", "g123457", 1) || err != api.OK {
		t.Errorf("Mul of the long unit = %q, %d", got, err)
	}
	if got, err := measure.Div(longUnit, "dddddddd"); got != strings.Replace(longUnit, "dddddddd.", "", 1) || err != api.OK {
		t.Errorf("Div of the long unit = %q, %d", got, err)
	}
}

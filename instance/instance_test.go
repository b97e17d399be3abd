package instance_test

import (
	"fmt"
	"slices"
	"strings"
	"testing"

	"linkwork/api"
	"linkwork/instance"
)

// want checks the instances of the last class of a source, with modifications.
func want(t *testing.T, text, modified string, texts ...string) {
	t.Helper()
	got, err := built(t, text, modified)
	if err != api.OK || !slices.Equal(lines(got), texts) {
		t.Errorf("Build of %s (%s) = %q, %d, want %q", text, modified, lines(got), err, texts)
	}
}

// wantValue checks the value of a parameter p of a model that has some others.
func wantValue(t *testing.T, class, value, want string) {
	t.Helper()
	const others = "model A parameter Real k = 1/2; parameter Integer m[2] = {7, 8}; parameter Real z[0]; Real x[3]; end A; " +
		"model M A a; A c[2](k = 5); A e[0]; parameter Integer n = 2; parameter Integer i[3] = {4, 5, 6}; parameter Real r[2, 3] = {{1, 2, 3}, {4, 5, 6}}; " +
		"parameter Boolean t = true; parameter Boolean f; parameter Boolean w[2] = {true, false}; parameter Real zero; Real x[n + 2, 4]; "
	got, err := built(t, others+"parameter "+class+" p = "+value+"; end M;", "")
	if err != api.OK {
		t.Errorf("%s: %d", value, err)
		return
	}
	if x, err := instance.Find(got, "p"); err != api.OK || x.Value != want {
		t.Errorf("%s = %s, %d, want %s", value, x.Value, err, want)
	}
}

func TestExample(t *testing.T) {
	want(t, "model A parameter Integer n = 2; Real x[n](start = 1); end A; model B A a(n = 3); end B;", "",
		"a A", "a.n Integer param number value=3", "a.x[1] Real continuous number start=1", "a.x[2] Real continuous number start=1", "a.x[3] Real continuous number start=1")
	if _, err := built(t, "parameter Real p = q; parameter Real q = p;", ""); err != api.ErrCycle {
		t.Errorf("p = q and q = p: %d", err)
	}
}

func TestKinds(t *testing.T) {
	want(t, `connector Pin Real v(unit = "V", start = 2); flow Real i; end Pin;
		model A input Real u(unit = "m"); Pin p; end A;
		model M A a; Pin q; input Real u; Real x(start = 1/2, fixed = true, unit = "m.s-1"); discrete Real d(start = -3); discrete Boolean b(start = true);
		discrete Boolean c; parameter Real k(unit = "kg") = 1.5; parameter Integer n = -4; parameter Boolean t = true; Real y(start = 1, fixed = false); end M;`, "",
		"a A", "a.p Pin", "a.p.i Real continuous number flow", "a.p.v Real continuous number start=2 unit=V", "a.u Real continuous number unit=m",
		"b Boolean discrete truth start=true", "c Boolean discrete truth", "d Real discrete number start=-3", "k Real param number value=3/2 unit=kg",
		"n Integer param number value=-4", "q Pin", "q.i Real continuous number flow", "q.v Real continuous number start=2 unit=V",
		"t Boolean param truth value=true", "u Real input number", "x Real continuous number start=1/2 fixed unit=m.s-1", "y Real continuous number start=1")
	want(t, "model M end M;", "")
	want(t, "parameter Real p; parameter Integer n; parameter Boolean b;", "", // without a Value
		"b Boolean param truth value=false", "n Integer param number value=0", "p Real param number value=0")
}

func TestDimensions(t *testing.T) {
	want(t, "parameter Integer n = 2; parameter Real r[n, n + 1] = {{1, 2, 3}, {4, 5, 6}}; Real x[10 + 1](unit = \"m\"); Real z[0]; Real y[1, 0];", "",
		"n Integer param number value=2",
		"r[1,1] Real param number value=1", "r[1,2] Real param number value=2", "r[1,3] Real param number value=3",
		"r[2,1] Real param number value=4", "r[2,2] Real param number value=5", "r[2,3] Real param number value=6",
		"x[10] Real continuous number unit=m", "x[11] Real continuous number unit=m", "x[1] Real continuous number unit=m", "x[2] Real continuous number unit=m",
		"x[3] Real continuous number unit=m", "x[4] Real continuous number unit=m", "x[5] Real continuous number unit=m", "x[6] Real continuous number unit=m",
		"x[7] Real continuous number unit=m", "x[8] Real continuous number unit=m", "x[9] Real continuous number unit=m")
	want(t, "model A Real x[2]; end A; model B A a; A c[0]; end B; model M B b[1, 2]; end M;", "",
		"b[1,1] B", "b[1,1].a A", "b[1,1].a.x[1] Real continuous number", "b[1,1].a.x[2] Real continuous number",
		"b[1,2] B", "b[1,2].a A", "b[1,2].a.x[1] Real continuous number", "b[1,2].a.x[2] Real continuous number")
	// an element for each index, or one for all
	want(t, "Real x[2](start = {1, 2}, fixed = {false, true}); Real y[2](start = 3, fixed = true);", "",
		"x[1] Real continuous number start=1", "x[2] Real continuous number start=2 fixed", "y[1] Real continuous number start=3 fixed", "y[2] Real continuous number start=3 fixed")
	// dimensions of the component itself count, not those of what it is in
	want(t, "model A parameter Real k[2]; end A; model M A a[2](k = {1, 2}); end M;", "",
		"a[1] A", "a[1].k[1] Real param number value=1", "a[1].k[2] Real param number value=2", "a[2] A", "a[2].k[1] Real param number value=1", "a[2].k[2] Real param number value=2")
}

func TestValues(t *testing.T) {
	for value, result := range map[string]string{
		"-n + 7 * 2 - 1":                         "11",
		"n / 4":                                  "1/2",
		"sum(r)":                                 "21",
		"sum(r[2, 3] * i)":                       "90",
		"sum(2 * i - {1, 1, n})":                 "26",
		"sum({{1, 2}, {3, n}} / 4)":              "2",
		"sum(-i)":                                "-15",
		"sum(i / 2)":                             "15/2",
		"sum(if t then i else -i)":               "15",
		"sum(if f then i else {1, 0, 0})":        "1",
		"size(x, 1) + size(x, 2) * 10":           "44",
		"size(c, 1)":                             "2",
		"size(c.x, 2)":                           "3",
		"size(a.x, 1)":                           "3",
		"a.k":                                    "1/2",
		"c[2].k":                                 "5",
		"sum(c.k)":                               "10",
		"sum(c.m)":                               "30",
		"sum(c[1].m)":                            "15",
		"c[n].m[n - 1]":                          "7",
		"sum(c.m[2])":                            "16",
		"i[n]":                                   "5",
		"i[size(r, 2)]":                          "6",
		"r[n, 2 * n - 1]":                        "6",
		"sum(a.z)":                               "0",
		"sum(e.m)":                               "0",
		"sum(1 / zero * a.z)":                    "0", // without elements nothing is evaluated
		"sum(a.z / zero)":                        "0",
		"sum(if 1 / zero > 1 then a.z else a.z)": "0",
		"if t then 1 else 1 / zero":              "1",
		"if f then 1 / zero else 2":              "2",
		"if t or 1 / zero > 1 then 3 else 4":     "3",
		"if f and 1 / zero > 1 then 3 else 4":    "4",
		"if not (n < 2) and n <= 2 and n >= 2 then 1 else 0":   "1",
		"if n > 2 or n == 3 or n <> 2 or t == f then 1 else 0": "0",
		"if w[1] and not w[2] and w[1] <> w[2] then 1 else 0":  "1",
		"if t == w[1] then 8 else 9":                           "8",
	} {
		wantValue(t, "Real", value, result)
	}
	wantValue(t, "Integer", "3 * (1 / 3)", "1")
	wantValue(t, "Integer", "1000000", "1000000")
	wantValue(t, "Integer", "-1000000", "-1000000")
	wantValue(t, "Integer", "2000000 - 1500000", "500000")
	wantValue(t, "Boolean", "n == 2", "true")
	wantValue(t, "Boolean", "t and w[2]", "false")
	wantValue(t, "Boolean", "if t then f else t", "false")
}

// Elements may be of any size, and numbers may be long in between.
func TestSizes(t *testing.T) {
	got, err := built(t, "parameter Real k[12, 12] = 1/2; parameter Real s = sum(k) + sum(k * sum(k * sum(k * sum(k * sum(k * sum(k)))))); parameter Integer n = sum(2 * k);", "")
	if s, e := instance.Find(got, "s"); err != api.OK || e != api.OK || s.Value != "139314069576" {
		t.Errorf("sums of many: %d, %v, %d", err, s, e)
	}
	if n, e := instance.Find(got, "n"); e != api.OK || n.Value != "144" {
		t.Errorf("a sum of many: %v, %d", n, e)
	}
	long := "(" + strings.Repeat("999999999999999 * ", 12) + "1)"
	long = "(" + long + " * " + long + ")"
	want(t, "parameter Real p = "+long+" / (3 * "+long+");", "", "p Real param number value=1/3")
	want(t, "parameter Boolean p = "+long+" > 1;", "", "p Boolean param truth value=true")
	// a number that is too long matters only where there is an instance
	want(t, "model A parameter Real q = "+long+"; parameter Boolean p = q > 1; end A; model M A a[0]; parameter Real s = sum(a.q); end M;", "", "s Real param number value=0")
}

// Of scopes nothing is asked as by Check of package shape.
func TestLargeScopes(t *testing.T) {
	text := "model A parameter Real k[2] = {3, 4}; Real x[3]; end A; "
	path := "a"
	for i := range 9 {
		class := string(rune('A'+i+1)) + "1"
		before := "A"
		if i > 0 {
			before = string(rune('A'+i)) + "1"
		}
		text += "model " + class + " " + before + " a[1]; end " + class + "; "
		path += "[1].a"
	}
	path = strings.TrimSuffix(path, ".a")
	got, err := built(t, text+"model M J1 a; parameter Real p = a."+path+".k[2]; parameter Real s = sum(a."+path+".k); Real y[size(a."+path+".x, 1)]; "+
		"parameter Real i[5] = 6; parameter Real q = i[size(a."+path+".k, 1)]; end M;", "")
	if err != api.OK {
		t.Fatalf("a long path: %d", err)
	}
	for name, value := range map[string]string{"p": "4", "s": "7", "q": "6", "y[3]": ""} {
		if x, err := instance.Find(got, name); x.Value != value || err != api.OK {
			t.Errorf("%s = %s, %d", name, x.Value, err)
		}
	}
	text = ""
	class := ""
	for i := range 6 {
		text += fmt.Sprintf("model A%d ", i)
		if class != "" {
			text += "extends " + class + "; "
		}
		class = fmt.Sprintf("A%d", i)
		for j := range 20 {
			text += fmt.Sprintf("parameter Integer n%d_%d=%d;", i, j, i*20+j)
		}
		text += "end " + class + "; "
	}
	got, err = built(t, text+"model M extends A5; parameter Integer s = n5_19 + n0_0; Real x[n0_3]; end M;", "")
	if s, e := instance.Find(got, "s"); err != api.OK || len(got) != 124 || s.Value != "119" || e != api.OK {
		t.Errorf("many Integers: %d, %d, %v, %d", len(got), err, s, e)
	}
}

// Where expressions belong.
func TestBelongs(t *testing.T) {
	const r = "model R parameter Integer n = 10; parameter Real k = n; parameter Real l = 2 * n; Real x[n - 9](start = n + k); end R; "
	want(t, r+"model M parameter Integer n = 3; R r(k = n); end M;", "",
		"n Integer param number value=3", "r R", "r.k Real param number value=3", "r.l Real param number value=20", "r.n Integer param number value=10", "r.x[1] Real continuous number start=13")
	want(t, r+"model M parameter Integer n = 3; R r(n = n + 8, x(start = n)); end M;", "",
		"n Integer param number value=3", "r R", "r.k Real param number value=11", "r.l Real param number value=22", "r.n Integer param number value=11",
		"r.x[1] Real continuous number start=3", "r.x[2] Real continuous number start=3")
	// of an extends clause: the class in which it is written
	want(t, r+"model E extends R(n = m + 10, k = l); parameter Integer m = 0; end E; model M parameter Integer m = 5; E e; end M;", "",
		"e E", "e.k Real param number value=20", "e.l Real param number value=20", "e.m Integer param number value=0", "e.n Integer param number value=10",
		"e.x[1] Real continuous number start=30", "m Integer param number value=5")
	// lists within lists, of Build as well
	const deep = r + "model A parameter Integer n = 20; R r(k = n); end A; model M parameter Integer n = 30; A a(r(l = n)); end M;"
	want(t, deep, "", "a A", "a.n Integer param number value=20", "a.r R", "a.r.k Real param number value=20", "a.r.l Real param number value=30", "a.r.n Integer param number value=10",
		"a.r.x[1] Real continuous number start=30", "n Integer param number value=30")
	want(t, deep, "a(r(k = n + 1, x(start = a.n)), n = a.r.n), n = 7", "a A", "a.n Integer param number value=10", "a.r R", "a.r.k Real param number value=8", "a.r.l Real param number value=7",
		"a.r.n Integer param number value=10", "a.r.x[1] Real continuous number start=10", "n Integer param number value=7")
}

func TestRedeclared(t *testing.T) {
	const classes = "model C parameter Real k = 1; end C; model D extends C(k = 2); parameter Real l = k; end D; model E extends C; parameter Real m = 3; end E; " +
		"model B replaceable C c(k = 9); end B; "
	want(t, classes+"model M B b(redeclare D c, c(l = 5)); end M;", "", "b B", "b.c D", "b.c.k Real param number value=9", "b.c.l Real param number value=5")
	want(t, classes+"model M B b(redeclare D c); end M;", "b(redeclare E c)", "b B", "b.c E", "b.c.k Real param number value=9", "b.c.m Real param number value=3")
	want(t, classes+"model M extends B(redeclare D c); end M;", "c(l = 4, k = 6)", "c D", "c.k Real param number value=6", "c.l Real param number value=4")
	want(t, classes+"model M B b; end M;", "b(redeclare C c, c(k = 8))", "b B", "b.c C", "b.c.k Real param number value=8")
	// what an inner list says of the class that is there no more does not count, if the outer one says it, too
	want(t, classes+"model M B b(redeclare D c, c(k = 5)); end M; model N M m(b(redeclare C c, c(k = 4))); end N;", "",
		"m M", "m.b B", "m.b.c C", "m.b.c.k Real param number value=4")
}

// What is put on it may be of many lists.
func TestManyMods(t *testing.T) {
	text := "model A0 "
	for i := range 39 {
		text += fmt.Sprintf("parameter Real a%d;", i)
	}
	text += "end A0; model A1 extends A0; "
	for i := range 39 {
		text += fmt.Sprintf("parameter Real b%d;", i)
	}
	list := func(letter string) string {
		var parts []string
		for i := range 39 {
			parts = append(parts, fmt.Sprintf("%s%d=%d", letter, i, i))
		}
		return strings.Join(parts, ",")
	}
	got, err := built(t, text+"end A1; model B A1 a("+list("a")+"); end B; model M B b(a("+list("b")+")); end M;", "")
	if err != api.OK || len(got) != 80 {
		t.Fatalf("two lists: %d, %d", len(got), err)
	}
	for _, name := range []string{"a", "b"} {
		if x, err := instance.Find(got, "b.a."+name+"38"); x.Value != "38" || err != api.OK {
			t.Errorf("%s38: %v, %d", name, x, err)
		}
	}
}

package instance_test

import (
	"fmt"
	"slices"
	"strings"
	"testing"

	"linkwork/api"
	"linkwork/instance"
)

// wantError checks the error of the last class of a source, with modifications.
func wantError(t *testing.T, text, modified string, want api.Errno) {
	t.Helper()
	if got, err := built(t, text, modified); err != want || len(got) > 0 {
		t.Errorf("Build of %s (%s): %q, %d, want %d", text, modified, lines(got), err, want)
	}
}

func TestLibraryErrors(t *testing.T) {
	good := parse(t, "model A Real x; end A; connector P Real v; end P;")
	bad := mods(t, "x = 1")
	for what, c := range map[string]struct {
		lib  []api.Class
		name string
		mods []api.Mod
		want api.Errno
	}{
		"malformed":           {[]api.Class{{Kind: "model", Name: "1"}}, "B", bad, api.ErrForm},
		"too many":            {slices.Repeat(good, 21), "B", bad, api.ErrSize},
		"twice":               {slices.Repeat(good, 2), "A", bad, api.ErrName},
		"not sound":           {parse(t, "model A Real x; end A; model B extends C; end B;"), "A", bad, api.ErrName},
		"not sound elsewhere": {parse(t, "model A Real x; end A; model B Real x = 1; end B;"), "A", nil, api.ErrType},
		"of itself":           {parse(t, "model A A a; end A;"), "A", nil, api.ErrCycle},
		"no class":            {good, "B", bad, api.ErrName},
		"no name":             {good, "", bad, api.ErrName},
		"built-in":            {good, "Real", nil, api.ErrName},
		"no library":          {nil, "A", nil, api.ErrName},
		"a connector":         {good, "P", []api.Mod{{Name: "1"}}, api.ErrType},
	} {
		if got, err := instance.Build(c.lib, c.name, c.mods); err != c.want || got != nil {
			t.Errorf("%s: %v, %d, want %d", what, got, err, c.want)
		}
	}
}

// nested returns modifications so many deep.
func nested(depth int) []api.Mod {
	if depth == 1 {
		return []api.Mod{{Name: "x", Value: []api.Tree{{Op: "num", Text: "1"}}}}
	}
	return []api.Mod{{Name: "x", Mods: nested(depth - 1)}}
}

// Modifications that are none, or too many.
func TestMalformedMods(t *testing.T) {
	lib := parse(t, "model A parameter Real x; end A;")
	one := []api.Tree{{Op: "num", Text: "1"}}
	endless := []api.Mod{{Name: "x"}}
	endless[0].Mods = endless
	many := slices.Repeat([]api.Mod{{Name: "x", Value: one}}, 41)
	for what, c := range map[string]struct {
		mods []api.Mod
		want api.Errno
	}{
		"no name":              {[]api.Mod{{Value: one}}, api.ErrForm},
		"nothing":              {[]api.Mod{{Name: "x"}}, api.ErrForm},
		"a value and a class":  {[]api.Mod{{Name: "x", Value: one, Class: "A"}}, api.ErrForm},
		"two values in one":    {[]api.Mod{{Name: "x", Value: append(one, one...)}}, api.ErrForm},
		"no expression":        {[]api.Mod{{Name: "x", Value: []api.Tree{{Op: "num", Text: "01"}}}}, api.ErrForm},
		"malformed, not there": {[]api.Mod{{Name: "y", Value: one}, {Name: "x", Class: "1"}}, api.ErrForm},
		"malformed within":     {[]api.Mod{{Name: "x", Mods: []api.Mod{{Name: "end", Value: one}}}}, api.ErrForm},
		"too many":             {many, api.ErrSize},
		"too deep":             {nested(7), api.ErrSize},
		"endless":              {endless, api.ErrSize},
		"malformed, too many":  {append(slices.Clone(many), api.Mod{}), api.ErrForm},
		"not there":            {mods(t, "y = 1"), api.ErrName},
		"not there, wrong":     {mods(t, "x = \"m\", y = 1"), api.ErrName},
		"twice":                {mods(t, "x = 1, x = 2"), api.ErrName},
		"twice within":         {mods(t, "x(unit = \"m\", unit = \"m\")"), api.ErrName},
		"a path":               {[]api.Mod{{Name: "x.y", Value: one}}, api.ErrForm},
		"deep":                 {nested(6), api.ErrType},
	} {
		if got, err := instance.Build(lib, "A", c.mods); err != c.want || got != nil {
			t.Errorf("%s: %v, %d, want %d", what, got, err, c.want)
		}
	}
}

// Modifications that may not be put over a class.
func TestWrongMods(t *testing.T) {
	const classes = "model C parameter Real k = 1; end C; model D extends C; parameter Real l = 2; end D; model F end F; connector P Real v; end P; " +
		"model B C fast; replaceable C c; replaceable F f; end B; " +
		"model M B b(redeclare D c); P p; Real x; parameter Real k; parameter Integer n; input Real u; parameter Boolean t; discrete Boolean s; replaceable C c; D d; end M;"
	for modified, want := range map[string]api.Errno{
		"x = 1":                             api.ErrType,
		"u = 1":                             api.ErrType,
		"d = 1":                             api.ErrType,
		"k = \"m\"":                         api.ErrType,
		"x(start = \"m\")":                  api.ErrType,
		"x(fixed = \"m\")":                  api.ErrType,
		"x(unit = 1)":                       api.ErrType,
		"x(min = 1)":                        api.ErrType,
		"x(start(start = 1))":               api.ErrType,
		"k(start = 1)":                      api.ErrType,
		"u(start = 1)":                      api.ErrType,
		"u(fixed = true)":                   api.ErrType,
		"n(unit = \"m\")":                   api.ErrType,
		"n(start = 1)":                      api.ErrType,
		"s(fixed = true)":                   api.ErrType,
		"s(unit = \"m\")":                   api.ErrType,
		"t(start = true)":                   api.ErrType,
		"redeclare D d":                     api.ErrType,
		"redeclare F c":                     api.ErrType,
		"redeclare Nothing c":               api.ErrType,
		"redeclare Real c":                  api.ErrType,
		"redeclare C x":                     api.ErrType,
		"redeclare D nothing":               api.ErrName,
		"c(l = 3)":                          api.ErrType,
		"b(nothing(x = 3))":                 api.ErrType,
		"b(nothing = 3)":                    api.ErrType,
		"b(redeclare D fast)":               api.ErrType,
		"b(redeclare D f)":                  api.ErrType,
		"b(redeclare Nothing c)":            api.ErrType,
		"b(redeclare C c, c(l = 3))":        api.ErrType,
		"p(v = 1)":                          api.ErrType,
		"d(l(start = 3))":                   api.ErrType,
		"redeclare D c, c(l = 3)":           api.OK,
		"redeclare C c, c(k = 3)":           api.OK,
		"b(c(l = 3))":                       api.OK, // as the list of b redeclares it
		"b(redeclare D c, c(l = 3, k = 4))": api.OK,
		"p(v(start = 1, unit = \"V\"))":     api.OK,
		"s(start = true), k(unit = \"m\"), k = 2": api.OK,
	} {
		if _, err := built(t, classes, modified); err != want {
			t.Errorf("Build with %s: %d, want %d", modified, err, want)
		}
	}
	// one level deeper, what the class itself says is not looked at
	wantError(t, strings.Replace(classes, "model M B b(redeclare D c);", "model A B b(redeclare D c); end A; model M A a; B b;", 1), "a(b(c(l = 3)))", api.ErrType)
}

// What all lists together put on a place.
func TestWrongPlaces(t *testing.T) {
	const classes = "model C parameter Real k = 1; end C; model D extends C; parameter Real l = 2; replaceable C y; end D; " +
		"model E extends C; parameter Real m = 1; Real l; D y; end E; model B replaceable C c; end B; model A B b(redeclare D c, c(l = 3)); end A; " +
		"model A2 B b(redeclare D c, c(redeclare D y)); end A2; model A3 B b(redeclare D c, c(y(k = 3))); end A3; "
	wantPlaces := func(text string, want api.Errno) {
		t.Helper()
		if _, err := built(t, classes+text, ""); err != want {
			t.Errorf("%s: %d, want %d", text, err, want)
		}
	}
	wantPlaces("model M A a; end M;", api.OK)
	wantPlaces("model M A a(b(redeclare D c)); end M;", api.OK)
	wantPlaces("model M A a(b(redeclare C c)); end M;", api.ErrType)            // it has no l
	wantPlaces("model M A a(b(redeclare E c)); end M;", api.ErrType)            // its l is no parameter
	wantPlaces("model M A a(b(redeclare C c, c(k = 1))); end M;", api.ErrType)  // nor does this help
	wantPlaces("model M A2 a(b(redeclare E c)); end M;", api.ErrType)           // its y is not replaceable
	wantPlaces("model M A2 a(b(redeclare D c)); end M;", api.OK)                //
	wantPlaces("model M A3 a(b(redeclare E c)); end M;", api.OK)                //
	wantPlaces("model M A3 a(b(redeclare C c)); end M;", api.ErrType)           //
	wantPlaces("model M A a[0](b(redeclare C c)); end M;", api.ErrType)         // whether or not there are instances
	wantPlaces("model M A a(b(redeclare C c)); Real x[x]; end M;", api.ErrType) // ahead of ErrCycle
	wantPlaces("model M A a(b(redeclare C c)); A z[1/0]; end M;", api.ErrType)
	if _, err := built(t, classes+"model M A a; end M;", "a(b(redeclare C c))"); err != api.ErrType {
		t.Errorf("of Build: %d", err)
	}
}

// Of what lists say of the same, the outermost one is asked alone; a value, a list and a class are not the same.
func TestHiddenMods(t *testing.T) {
	const classes = "model Y parameter Real k; end Y; model Y1 extends Y; end Y1; model Y2 extends Y1; end Y2; model C replaceable Y y; end C; model E extends C(redeclare Y1 y); end E; " +
		"model F extends C; parameter Real z; end F; model G extends C; replaceable Y z; end G; model B replaceable C c; end B; " +
		"model A B b(c(redeclare Y y)); end A; model D B b(redeclare F c, c(z = 3)); end D; "
	for text, want := range map[string]api.Errno{
		"A a(b(redeclare E c))":                     api.ErrType, // Y is no Y1
		"A a(b(redeclare E c, c(redeclare Y2 y)))":  api.OK,
		"D d(b(redeclare F c, c(z = 4)))":           api.OK,
		"D d(b(redeclare G c))":                     api.ErrType, // a value for z
		"D d(b(redeclare G c, c(redeclare Y1 z)))":  api.ErrType,
		"D d(b(redeclare G c, c(z(k = 3))))":        api.ErrType,
		"D d(b(redeclare F c, c(z(unit = \"m\"))))": api.OK,
	} {
		if _, err := built(t, classes+"model M "+text+"; end M;", ""); err != want {
			t.Errorf("%s: %d, want %d", text, err, want)
		}
	}
}

func TestCycles(t *testing.T) {
	for _, text := range []string{
		"parameter Real p = p;",
		"parameter Real p = q + 1; parameter Real q = 2 * r; parameter Real r = p;",
		"parameter Real p[2] = {1, p[1]};",
		"parameter Real p[2] = {size(p, 1), 1};",
		"parameter Real p = if true then 1 else p;",
		"parameter Real p = k[n]; parameter Real k[2]; parameter Integer n = if p > 1 then 1 else 2;",
		"parameter Integer n = size(x, 1); Real x[n];",
		"parameter Integer n = size(x, 1); Real x[2 * size(y, 1)]; Real y[n];",
		"Real x[size(x, 1)];",
		"Real x[size(y, 1)]; Real y[size(x, 1)];",
		"parameter Real k[n] = 1; parameter Integer n = k[1];",
		"parameter Real p = der(p);",
		"model A parameter Integer n = 2; end A; model M A a[a.n]; end M;",
		"model A parameter Integer n = 2; end A; model M A a[size(a.n, 1)]; end M;",
		"model A parameter Integer n; Real x[n]; end A; model M A a(n = size(a.x, 1)); end M;",
		"model A parameter Integer n; Real x[n]; end A; model M A a(n = size(b.x, 1)); A b(n = size(a.x, 1)); end M;",
		"model A parameter Real p = p; end A; model M A a[0]; end M;", // whether or not there are instances
		"parameter Real p = p; Real x[13]; Real y(fixed = true);",     // ahead of all that follows
		"parameter Real a = 1/0; parameter Real p = p;",
	} {
		wantError(t, text, "", api.ErrCycle)
	}
	for text, want := range map[string]api.Errno{
		"parameter Real p(unit = \"m\") = 1; Real x(start = x0); parameter Real x0 = p;":                                                   api.OK,
		"parameter Integer n = size(k, 1); parameter Real k[2];":                                                                           api.OK,
		"Real x[2](start = size(x, 1));":                                                                                                   api.OK, // a start is nothing that others depend on
		"parameter Integer n[2] = {size(x, 1), 2}; Real x[size(n, 1)];":                                                                    api.OK, // dimensions depend on the values of Integers without dimensions
		"model A parameter Real p = q; parameter Real q; end A; model M A a(q = b.p); A b(q = 1); end M;":                                  api.OK,
		"model A parameter Integer n = 1; Real x[n]; end A; model M parameter Integer n = size(a.x, 1) + 1; A a(n = 2); Real x[n]; end M;": api.OK,
		"parameter Real p = q.p; parameter Real q = p.q;":                                                                                  api.ErrName, // nothing is named
	} {
		if _, err := built(t, text, ""); err != want {
			t.Errorf("%s: %d, want %d", text, err, want)
		}
	}
}

func TestDimensionErrors(t *testing.T) {
	for dim, want := range map[string]api.Errno{
		"13": api.ErrArg, "-1": api.ErrArg, "0": api.OK, "12": api.OK, "n - 14": api.ErrArg, "n": api.ErrArg, "n - 1": api.OK,
		"k": api.ErrType, "true": api.ErrType, "3/2": api.ErrArg, "1.5": api.ErrType, "1 / (n - 13)": api.ErrZero, "nothing": api.ErrType, "m[1]": api.ErrType, "a.n": api.ErrType,
		"time": api.ErrType, "{1}": api.ErrType, "sum({1})": api.ErrType, "n == 13": api.ErrType, "1000 * 1001": api.ErrSize, "size(nothing, 1)": api.ErrName,
		"size(m, 1)": api.OK, "size(m, 2)": api.ErrArg, "size(m[1, 1], 1)": api.ErrDim, "size(m[3], 1)": api.ErrArg, "size(a.x, 1)": api.OK, "if n > 1 then 2 else 1/0": api.OK,
		"13, 1/0": api.ErrArg, "1/0, 13": api.ErrZero, "2, 13": api.ErrArg,
	} {
		_, err := built(t, "model A parameter Integer n = 2; Real x[3]; end A; model M A a; parameter Integer n = 13; parameter Integer m[2] = 1; parameter Real k = 1; Real x["+dim+"]; end M;", "")
		if err != want {
			t.Errorf("[%s]: %d, want %d", dim, err, want)
		}
	}
}

// wantErrors checks, for each expression, the error that it has as the Value of a parameter p of a class, or as a start.
func wantErrors(t *testing.T, class string, errors map[string]api.Errno) {
	t.Helper()
	const others = "model A parameter Real k = 1/2; Real x[3]; end A; " +
		"model M A a; A c[2]; parameter Integer n = 2; parameter Integer i[2] = {4, 5}; parameter Boolean t = true; parameter Boolean w[2] = {true, false}; " +
		"parameter Real r[2, 2] = 1; Real x[2]; discrete Real d; input Real u; parameter Real o; "
	class, dims, isArray := strings.Cut(class, "[")
	if isArray {
		dims = "[" + dims
	}
	for value, want := range errors {
		texts := []string{"parameter " + class + " p" + dims + " = " + value + ";"}
		if class != "Integer" {
			texts = append(texts, "discrete "+class+" p"+dims+"(start = "+value+");")
		}
		if class == "Boolean" {
			texts = append(texts, "Real p"+dims+"(start = 1, fixed = "+value+");")
		}
		for _, text := range texts {
			if _, err := built(t, others+text+" end M;", ""); err != want {
				t.Errorf("%s: %d, want %d", text, err, want)
			}
		}
	}
}

func TestValueErrors(t *testing.T) {
	wantErrors(t, "Real", map[string]api.Errno{
		"nothing": api.ErrName, "a.nothing": api.ErrName, "n.k": api.ErrName, "i.x": api.ErrName, "{1, nothing}": api.ErrName, "a.x.y": api.ErrName,
		"i[1, 1]": api.ErrDim, "n[1]": api.ErrDim, "i[3]": api.ErrArg, "i[0]": api.ErrArg, "i[1 / 0]": api.ErrZero, "i[o]": api.ErrType, "i[i[1]]": api.ErrType,
		"i[1000000 * 2]": api.ErrSize, "size(i, 2)": api.ErrArg, "size(i, 1 / 0)": api.ErrZero, "c[3].k": api.ErrArg, "sum(1)": api.ErrDim,
		"i + r": api.ErrDim, "i * i": api.ErrDim, "1 / i": api.ErrDim, "{1, i}": api.ErrDim, "if i then 1 else 2": api.ErrDim, "i < 1": api.ErrDim,
		"sample(n, 1)": api.ErrType, "sum(c.x)": api.ErrType,
		"i": api.ErrDim, "{1}": api.ErrDim, "r": api.ErrDim, "c.k": api.ErrDim, "x": api.ErrDim, "{true}": api.ErrDim, "{1 / 0}": api.ErrDim,
		"x[1]": api.ErrType, "d": api.ErrType, "u": api.ErrType, "a": api.ErrType, "a.x[1]": api.ErrType, "if true then 1 else d": api.ErrType,
		"der(n)": api.ErrType, "pre(o)": api.ErrType, "time": api.ErrType, "initial()": api.ErrType, "sample(1, 1)": api.ErrType, "0 * time": api.ErrType, "der(nothing)": api.ErrName,
		"1 + true": api.ErrType, "-t": api.ErrType, "not 1": api.ErrType, "if 1 then 2 else 3": api.ErrType, "if true then 1 else true": api.ErrType, "t * 1": api.ErrType,
		"1 / t": api.ErrType, "sum(w)": api.ErrType, "sum({1, true})": api.ErrType, "if t < t then 1 else 2": api.ErrType, "if 1 == true then 1 else 2": api.ErrType,
		"if 1 and t then 1 else 2": api.ErrType, "if t or 1 then 1 else 2": api.ErrType, "if t <> 1 then 1 else 2": api.ErrType,
		"1 / 0": api.ErrZero, "o / o": api.ErrZero, "sum(1 / {1, 0 * n})": api.ErrDim, "sum({1, 1 / o})": api.ErrZero, "sum(i / o)": api.ErrZero,
		"if t then 1 / o else 1": api.ErrZero, "if 1 / o > 1 then 1 else 1": api.ErrZero, "1 / 0 + t": api.ErrType, "1 / 0 + nothing": api.ErrName, "1 / 0 + d": api.ErrType,
		"true": api.ErrType, "t": api.ErrType, "1 / 0 == 1": api.ErrZero, "w[1]": api.ErrType, "1 < 2": api.ErrType, "t and 1 / 0 > 1": api.ErrZero, "not t and 1 / 0 > 1": api.ErrType, "sum({t})": api.ErrType,
		"not t or 1 / 0 > 1": api.ErrZero, "t or 1 / 0 > 1": api.ErrType,
		"n": api.OK, "size(x, 1)": api.OK, "size(c, 1)": api.OK, "c[1].k": api.OK, "sum(c.k)": api.OK, "if t then 1 else 1 / 0": api.OK,
	})
	wantErrors(t, "Boolean", map[string]api.Errno{
		"1": api.ErrType, "n": api.ErrType, "1 / 0": api.ErrZero, "1 / 0 < 1": api.ErrZero, "w": api.ErrDim, "w[2]": api.OK, "t": api.OK, "n == 2 and true": api.OK, "sum(i)": api.ErrType, "sum({true})": api.ErrType,
		"d > 1": api.ErrType, "initial()": api.ErrType, "sample(0, 1)": api.ErrType, "pre(t)": api.ErrType, "nothing": api.ErrName, "t or 1 / 0 > 1": api.OK,
	})
	wantErrors(t, "Integer", map[string]api.Errno{
		"1/2": api.ErrType, "1000001": api.ErrType, "-1000001": api.ErrType, "1000000": api.OK, "4 / 2": api.OK, "true": api.ErrType, "1 / 0": api.ErrZero, "i": api.ErrDim, "o + 1": api.OK,
		"999999999999999 - 999999999999998": api.OK,
	})
	wantErrors(t, "Real[2]", map[string]api.Errno{
		"1": api.OK, "i": api.OK, "{1, 2}": api.OK, "{1, 2, 3}": api.ErrDim, "r": api.ErrDim, "r[1]": api.ErrDim, "{1, true}": api.ErrType, "{true, false}": api.ErrType, "w": api.ErrType,
		"{1 / 0, 1}": api.ErrZero, "{1, 1 / 0}": api.ErrZero, "1 / 0": api.ErrZero, "x": api.ErrType, "c.k": api.OK, "c": api.ErrType, "{1 / 0, o + t}": api.ErrType, "i / 0": api.ErrZero, "true": api.ErrType,
	})
	wantErrors(t, "Integer[2]", map[string]api.Errno{"{1, 1/2}": api.ErrType, "{1, 2}": api.OK, "i": api.OK, "c.k": api.ErrType, "{1, 1000001}": api.ErrType})
	wantErrors(t, "Real[0]", map[string]api.Errno{"1 / 0": api.ErrZero, "true": api.ErrType, "nothing": api.ErrName, "i": api.ErrDim, "1": api.OK})
}

func TestTogether(t *testing.T) {
	for text, want := range map[string]api.Errno{
		"Real x(fixed = true);":                                       api.ErrForm,
		"Real x(fixed = 1 < 2);":                                      api.ErrForm,
		"Real x[2](fixed = {false, true});":                           api.ErrForm,
		"Real x[0](fixed = true);":                                    api.ErrForm,
		"model A Real x(fixed = true); end A; model M A a[0]; end M;": api.ErrForm,
		"Real x(fixed = false);":                                      api.OK,
		"Real x[2](fixed = {false, true}, start = 1);":                api.OK,
		"Real x(unit = \"2\");":                                       api.ErrForm,
		"Real x(unit = \"\");":                                        api.ErrForm,
		"Real x(unit = \"m.m\");":                                     api.ErrForm,
		"parameter Real p(unit = \"m1\");":                            api.ErrForm,
		"input Real u(unit = \"s.m\");":                               api.ErrForm,
		"Real x(unit = \"kg.m2.s-2\");":                               api.OK,
		"Real x[0](unit = \"m 2\");":                                  api.ErrForm,
	} {
		if _, err := built(t, text, ""); err != want {
			t.Errorf("%s: %d, want %d", text, err, want)
		}
	}
	// of lists for one component the outermost counts
	wantError(t, "model A Real x(unit = \"2\"); end A; model M A a(x(unit = \"2\")); end M;", "a(x(unit = \"3\"))", api.ErrForm)
	want(t, "model A Real x(unit = \"2\", fixed = true); end A; model M A a(x(unit = \"3\")); end M;", "a(x(unit = \"m\", fixed = false))", "a A", "a.x Real continuous number unit=m")
}

// Errors in their order.
func TestOrder(t *testing.T) {
	for text, want := range map[string]api.Errno{
		// by places
		"parameter Real b = nothing; parameter Real a = 1/0;":                                                       api.ErrZero,
		"parameter Real B = nothing; parameter Real a = 1/0;":                                                       api.ErrName,
		"parameter Real a_ = nothing; parameter Real a1 = 1/0;":                                                     api.ErrZero,
		"model A parameter Real p = 1/0; end A; model M A a; parameter Real a1 = nothing; parameter Real Z; end M;": api.ErrZero, // `a.p` is before `a1`
		"model A parameter Real p = 1/0; end A; model M A a[0]; parameter Real b = nothing; end M;":                 api.ErrZero, // whether or not there are instances
		// dimensions first
		"parameter Real a = 1/0; Real z[13];":                            api.ErrArg,
		"Real a(unit = \"2\"); Real y[nothing]; Real z[13];":             api.ErrType,
		"Real y[1/0]; Real z[13];":                                       api.ErrZero,
		"Real y[2, 13]; Real z[1/0];":                                    api.ErrArg,
		"model A Real x[1/0]; end A; model M A a[0]; Real b[13]; end M;": api.ErrZero,
		// at a place Value or start, fixed, and then what does not go together
		"Real x(fixed = 1/0 == 1, start = true);":                  api.ErrType,
		"Real x(fixed = 1/0 == 1, start = 1, unit = \"2\");":       api.ErrZero,
		"Real x(fixed = true, unit = \"2\"); Real y(start = 1/0);": api.ErrForm,
		"Real x(start = 1/0); Real y(unit = \"2\");":               api.ErrZero,
		"parameter Real x(unit = \"2\") = 1/0;":                    api.ErrZero,
		"Real x(fixed = true); parameter Real y = 1/0;":            api.ErrForm,
		// what depends on something with an error has none of its own
		"parameter Real a = b + nothing; parameter Real b = 1/0;":                                      api.ErrZero,
		"parameter Real a = if true then nothing else b; parameter Real b = 1/0;":                      api.ErrZero,
		"parameter Real a = c + nothing; parameter Real b = 1/0; parameter Real c = b;":                api.ErrZero,
		"Real a[n + 13]; parameter Integer n = 1/0;":                                                   api.ErrZero,
		"Real a[n + 13]; parameter Integer n = 1/0; Real z[size(a, 2)];":                               api.ErrZero,
		"Real a[n + 13]; parameter Integer n = 1/0; Real z[nothing];":                                  api.ErrType,
		"parameter Real a = size(x, 2); Real x[13];":                                                   api.ErrArg,
		"Real a(start = b + nothing); parameter Real b = 1/0;":                                         api.ErrZero,
		"Real a(fixed = b > 1); parameter Real b = 1/0;":                                               api.ErrZero,
		"parameter Real a[n] = nothing; parameter Integer n = 1/0;":                                    api.ErrZero,
		"model A parameter Real p = nothing; end A; model M A a[n]; parameter Integer n = 1/0; end M;": api.ErrZero,
		// but what is not named does not matter
		"parameter Real a = nothing; parameter Real b = 1/0;": api.ErrName,
		// ErrSize behind all others
		"Real a[12, 12]; Real b[12, 12]; Real c[12, 12]; parameter Real z = 1/0;": api.ErrZero,
		"Real a[12, 12]; Real b[12, 12]; Real c[12, 12]; Real z(unit = \"2\");":   api.ErrForm,
		"Real a[12, 12]; Real b[12, 12]; Real c[12, 12];":                         api.ErrSize,
	} {
		wantError(t, text, "", want)
	}
}

func TestLimits(t *testing.T) {
	var components []string
	for i := range 20 {
		components = append(components, fmt.Sprintf("Real x%d;", i))
	}
	twenty := "model A " + strings.Join(components, " ") + " end A; "
	parts := func(n int) string {
		text := "model M "
		for i := range n {
			text += fmt.Sprintf("A a%d; ", i)
		}
		return text
	}
	// 19 parts of 20 components are 399 places
	for text, want := range map[string]api.Errno{
		twenty + parts(19) + "Real y; end M;":                                     api.OK,
		twenty + parts(19) + "Real y; Real z; end M;":                             api.ErrSize,
		twenty + parts(19) + "Real y[0]; Real z[0]; end M;":                       api.ErrSize, // places, whatever their dimensions
		twenty + parts(19) + "Real y[2]; end M;":                                  api.ErrSize, // instances
		twenty + parts(19) + "Real y[0]; end M;":                                  api.OK,
		twenty + parts(18) + "A a18[0]; Real y[12]; end M;":                       api.OK, // 378 and 12 instances
		twenty + parts(18) + "A a18[0]; Real y[11, 2]; end M;":                    api.OK,
		twenty + parts(18) + "A a18[0]; Real y[11, 2]; Real z; end M;":            api.ErrSize,
		twenty + parts(20) + "Real y[y]; parameter Real p = 1/0; end M;":          api.ErrSize, // ahead of ErrCycle
		twenty + parts(19) + "Real y; Real z[1/0]; end M;":                        api.ErrSize,
		twenty + "model M A a[12]; A b[7]; end M;":                                api.OK, // 21 instances each, 399 in all
		twenty + "model M A a[12]; A b[7]; Real z[2]; end M;":                     api.ErrSize,
		twenty + "model B A a[12, 12]; end B; model M B b[12, 12]; end M;":        api.ErrSize,
		twenty + "model B A a[12, 12]; end B; model M B b[0]; B c[12, 0]; end M;": api.OK,
	} {
		if _, err := built(t, text, ""); err != want {
			t.Errorf("%s: %d, want %d", text[len(twenty):], err, want)
		}
	}
	if got, err := built(t, twenty+parts(19)+"Real y; end M;", ""); len(got) != 400 || err != api.OK {
		t.Errorf("400 instances: %d, %d", len(got), err)
	}
	testNames(t)
	testNumbers(t)
}

// testNames builds Paths of 80 bytes and more.
func testNames(t *testing.T) {
	const long = "abcdefghijklmnopqrst"
	for last, want := range map[string]api.Errno{"x2345678901234[1]": api.OK, "x23456789012345[1]": api.OK, "x234567890123456[1]": api.ErrSize, "x234567890123456[0]": api.OK, "x23456789012345678": api.OK, "x234567890123456789": api.ErrSize} {
		text := "model A Real " + last + "; end A; model B A " + long + "; end B; model C B " + long + "; end C; model M C " + long[1:] + "; end M;"
		got, err := built(t, text, "")
		if err != want {
			t.Errorf("%s: %d, want %d", last, err, want)
		}
		if len(got) == 4 && (len(got[3].Path) > 80 || last == "x23456789012345[1]" && len(got[3].Path) < 80) {
			t.Errorf("%d bytes", len(got[3].Path))
		}
	}
}

// testNumbers builds numbers of 300 digits and more.
func testNumbers(t *testing.T) {
	nines := "(" + strings.Repeat("1000000000000000 * ", 9) + "100000000000000)" // 1 and 149 zeros
	nines = strings.ReplaceAll(nines, "1000000000000000 *", "100000000000000 * 10 *")
	for value, want := range map[string]api.Errno{
		nines + " * " + nines:                       api.OK, // 1 and 298 zeros
		nines + " * 10 * " + nines:                  api.OK,
		nines + " * 10 * " + nines + " * 10":        api.ErrSize,
		"1 / (" + nines + " * 10 * " + nines + ")":  api.OK,
		"1 / (" + nines + " * 100 * " + nines + ")": api.ErrSize,
	} {
		for _, text := range []string{"parameter Real p = " + value + ";", "Real x(start = " + value + ");", "discrete Real x[2](start = {1, " + value + "});"} {
			if _, err := built(t, text, ""); err != want {
				t.Errorf("%s: %d, want %d", text, err, want)
			}
		}
		if _, err := built(t, "parameter Real q = "+value+"; parameter Real z = 1 / (q - q);", ""); err != api.ErrZero {
			t.Errorf("a zero behind %s: %d", value, err)
		}
		if _, err := built(t, "Real x[0](start = "+value+");", ""); err != api.OK {
			t.Errorf("%s without an instance: %d", value, err)
		}
	}
}

// Numbers that get too long to be calculated with end in ErrSize.
func TestPowers(t *testing.T) {
	t.Parallel()
	for _, step := range []string{"p * p", "p * (p + 1/7)", "p * p / (p + 3)", "sum({p, p} * p)"} {
		var text strings.Builder
		text.WriteString("parameter Real p0 = 999999999999999/7;")
		for i := 1; i < 38; i++ {
			fmt.Fprintf(&text, "parameter Real p%d = %s;", i, strings.ReplaceAll(step, "p", fmt.Sprintf("p%d", i-1)))
		}
		wantError(t, text.String(), "", api.ErrSize)
		if step != "p * p" {
			continue
		}
		wantError(t, text.String()+"parameter Real q = 1/0;", "", api.ErrZero)
		wantError(t, text.String()+"parameter Integer q = if p37 > 1 then 1 else 2; Real x[q];", "", api.ErrSize)
		wantError(t, text.String()+"Real x(start = 1, fixed = p37 > 1);", "", api.ErrSize)
	}
	text := "model B end B; model A parameter Real q0 = 2; "
	for i := 1; i < 25; i++ {
		text += fmt.Sprintf("parameter Real q%d = q%d * q%[2]d;", i, i-1)
	}
	text += "parameter Integer n = if q24 > 1 then 1 else 2; Real x[n]; end A; model M A a[0]; "
	for last, want := range map[string]api.Errno{
		"":                                       api.OK, // where there are no instances it does not matter
		"parameter Real p = sum(a.q24);":         api.OK,
		"Real x(start = sum(a.q24));":            api.OK,
		"Real x(fixed = sum(a.q24) > 1);":        api.OK,
		"parameter Real p = a.q24;":              api.ErrDim,
		"parameter Real p = a[1].q24;":           api.ErrArg,
		"A b;":                                   api.ErrSize,
		"A b; parameter Real p = 1 / 0 + b.q24;": api.ErrZero,
		"A b; parameter Real p = b.q24 + true;":  api.ErrType,
		"A b; parameter Real p = b.q24; Real x(start = p + nothing);": api.ErrName,
		"A b; parameter Boolean p = b.q24 > 1; Real x(fixed = p);":    api.ErrSize,
		"B x[size(a.n, 1)];":    api.ErrSize,
		"Real x[size(a.n, 1)];": api.ErrSize,
	} {
		if _, err := built(t, text+last+" end M;", ""); err != want {
			t.Errorf("%s with a long number: %d, want %d", last, err, want)
		}
	}
}

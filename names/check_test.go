package names_test

import (
	"slices"
	"strconv"
	"strings"
	"testing"

	"linkwork/api"
	"linkwork/names"
)

// classes returns so many classes with nothing in them.
func classes(n int) []api.Class {
	var list []api.Class
	for i := range n {
		list = append(list, api.Class{Kind: "model", Name: "M" + strconv.Itoa(i)})
	}
	return list
}

// reals returns so many components.
func reals(prefix string, n int) []api.Comp {
	var list []api.Comp
	for i := range n {
		list = append(list, api.Comp{Class: "Real", Name: prefix + strconv.Itoa(i)})
	}
	return list
}

func TestCheckLibrary(t *testing.T) {
	tooMuch := api.Class{Kind: "model", Name: "Large", Comps: reals("x", api.MaxPart+1)}
	endless := api.Class{Kind: "model", Name: "Endless", Eqs: []api.Stmt{{Kind: "if"}}}
	endless.Eqs[0].Body = endless.Eqs
	bad := api.Class{Kind: "modle", Name: "Bad"}
	nameless := api.Class{Kind: "model"}
	twice := api.Class{Kind: "model", Name: "M0"}
	unsound := api.Class{Kind: "model", Name: "A", Extends: []api.Extend{{Class: "Real"}}}
	for what, x := range map[string]struct {
		lib []api.Class
		err api.Errno
	}{
		"none":                         {nil, api.OK},
		"as many as allowed":           {classes(api.MaxClass), api.OK},
		"too many":                     {classes(api.MaxClass + 1), api.ErrSize},
		"too many, one malformed":      {append(classes(api.MaxClass), bad), api.ErrSize},
		"too many, all the same":       {slices.Repeat(classes(1), api.MaxClass+1), api.ErrSize},
		"too much in one":              {append(classes(3), tooMuch), api.ErrSize},
		"an endless one":               {[]api.Class{endless}, api.ErrSize},
		"malformed":                    {append(classes(3), bad), api.ErrForm},
		"without a name":               {[]api.Class{nameless}, api.ErrForm},
		"too much, then malformed":     {[]api.Class{tooMuch, bad}, api.ErrSize},
		"malformed, then too much":     {[]api.Class{bad, tooMuch}, api.ErrSize},
		"malformed, and a name twice":  {append(classes(3), twice, bad), api.ErrForm},
		"a name twice, then malformed": {append([]api.Class{bad, twice}, classes(3)...), api.ErrForm},
		"a name twice":                 {append(classes(3), twice), api.ErrName},
		"two kinds of one name":        {append(classes(1), api.Class{Kind: "connector", Name: "M0"}), api.ErrName},
		"Real":                         {[]api.Class{{Kind: "model", Name: "Real"}}, api.ErrName},
		"Integer":                      {[]api.Class{{Kind: "connector", Name: "Integer"}}, api.ErrName},
		"Boolean":                      {append(classes(2), api.Class{Kind: "model", Name: "Boolean"}), api.ErrName},
		"malformed, and built-in":      {[]api.Class{{Kind: "model", Name: "Real"}, bad}, api.ErrForm},
		"a name twice, and unsound":    {append(classes(3), unsound, twice), api.ErrName},
		"built-in, and unsound":        {[]api.Class{unsound, {Kind: "model", Name: "Real"}}, api.ErrName},
	} {
		if name, err := names.Check(x.lib); name != "" || err != x.err {
			t.Errorf("%s: Check = %q, %d, want %d", what, name, err, x.err)
		}
		want := x.err
		if len(x.lib) == 0 {
			want = api.ErrName
		}
		if c, uses, err := anyResult(x.lib); err != want || err != api.OK && !same(c, api.Class{}) || err != api.OK && len(uses) > 0 {
			t.Errorf("%s: %v, %v, %d, want %d", what, c, uses, err, want)
		}
	}
}

func TestCheckBases(t *testing.T) {
	expect(t, "model A extends B; end A; model B end B;", "", api.OK)
	expect(t, "connector A extends B; end A; connector B end B;", "", api.OK)
	expect(t, "model A extends B; extends B; extends C; end A; model B extends C; end B; model C end C;", "", api.OK)
	expect(t, "model A extends B; end A;", "A", api.ErrName)
	expect(t, "model A extends a; end A; model B end B;", "A", api.ErrName)
	expect(t, "model A extends B; end A; connector B end B;", "A", api.ErrType)
	expect(t, "connector A extends B; end A; model B end B;", "A", api.ErrType)
	for _, class := range []string{"Real", "Integer", "Boolean"} {
		expect(t, "model A extends "+class+"; end A;", "A", api.ErrType)
		expect(t, "connector A extends "+class+"; end A;", "A", api.ErrType)
	}
	// clause by clause
	expect(t, "model A extends B; extends X; extends Real; end A; model B end B;", "A", api.ErrName)
	expect(t, "model A extends B; extends Real; extends X; end A; model B end B;", "A", api.ErrType)
	expect(t, "model A extends C; extends X; end A; connector C end C;", "A", api.ErrType)
	// the first class
	expect(t, "model B extends X; end B; model A extends Real; end A; model C extends X; end C;", "A", api.ErrType)
	expect(t, "model C end C; model B extends X; end B; model BB extends Real; end BB;", "B", api.ErrName)
	expect(t, "model b extends X; end b; model B extends Real; end B;", "B", api.ErrType)
}

func TestCheckAncestors(t *testing.T) {
	expect(t, "model A extends A; end A;", "A", api.ErrCycle)
	expect(t, "connector A extends A; end A;", "A", api.ErrCycle)
	expect(t, "model B extends A; end B; model A extends B; end A;", "A", api.ErrCycle)
	expect(t, "model C extends B; end C; model B extends A; end B; model A extends D; extends C; end A; model D end D;", "A", api.ErrCycle)
	// the first one is one of the circle
	expect(t, "model A extends B; end A; model C extends B; end C; model B extends C; end B;", "B", api.ErrCycle)
	expect(t, "model A extends B; end A; model B extends B; end B;", "B", api.ErrCycle)
	// a class that is reached twice is none
	expect(t, "model A extends B; extends C; end A; model B extends D; end B; model C extends D; end C; model D equation 1 = 1; end D;", "", api.OK)
}

// chain returns classes of which each one extends the one before it so many times; the first one is given.
func chain(first api.Class, times ...int) []api.Class {
	list := []api.Class{first}
	for i, n := range times {
		x := api.Extend{Class: list[i].Name}
		c := api.Class{Kind: first.Kind, Name: "M" + strconv.Itoa(i+1), Extends: slices.Repeat([]api.Extend{x}, n)}
		list = append(list, c)
	}
	return list
}

func TestCheckSizes(t *testing.T) {
	one := api.Tree{Op: "num", Text: "1"}
	stmt := api.Stmt{Kind: "equal", Left: []api.Tree{one}, Right: []api.Tree{one}}
	stmts := func(n int) []api.Stmt { return slices.Repeat([]api.Stmt{stmt}, n) }
	full := func(name string) api.Class {
		return api.Class{Kind: "model", Name: name, Eqs: stmts(api.MaxPart), Inits: stmts(api.MaxPart), Comps: reals(name, api.MaxPart)}
	}
	// ten classes, all that one extends, have 400 of everything
	lib := []api.Class{{Kind: "model", Name: "All"}}
	for i := range 10 {
		c := full("B" + strconv.Itoa(i) + "x")
		lib = append(lib, c)
		lib[0].Extends = append(lib[0].Extends, api.Extend{Class: c.Name})
	}
	ask := func(lib []api.Class, name string, err api.Errno) {
		t.Helper()
		if got, e := names.Check(lib); got != name || e != err {
			t.Errorf("Check = %q, %d, want %q, %d", got, e, name, err)
		}
	}
	ask(lib, "", api.OK)
	if c := fullOf(t, lib, "All"); len(c.Comps) != 400 || len(c.Eqs) != 400 || len(c.Inits) != 400 {
		t.Errorf("Full: %d, %d, %d", len(c.Comps), len(c.Eqs), len(c.Inits))
	}
	for _, own := range []api.Class{{Comps: reals("own", 1)}, {Eqs: stmts(1)}, {Inits: stmts(1)}} {
		more := clone(lib)
		more[0].Comps, more[0].Eqs, more[0].Inits = own.Comps, own.Eqs, own.Inits
		ask(more, "All", api.ErrSize)
		ask(append(more, api.Class{Kind: "model", Name: "Above", Extends: []api.Extend{{Class: "All"}}}), "Above", api.ErrSize)
		_, _, err := anyResult(more)
		if err != api.ErrSize {
			t.Errorf("the other functions: %d", err)
		}
	}
	// nothing, however often, is not too much, and what is, is found
	often := slices.Repeat([]int{api.MaxPart}, api.MaxClass-1)
	ask(chain(classes(1)[0], often...), "", api.OK)
	ask(chain(api.Class{Kind: "model", Name: "M0", Eqs: stmts(1)}, 20, 20), "", api.OK)
	ask(chain(api.Class{Kind: "model", Name: "M0", Inits: stmts(1)}, 20, 20, 2), "M3", api.ErrSize)
	ask(chain(api.Class{Kind: "model", Name: "M0", Eqs: stmts(1)}, often...), "M10", api.ErrSize)
	ask(chain(api.Class{Kind: "model", Name: "M0", Comps: reals("x", 1)}, often...), "M10", api.ErrSize) // not that names are there twice
}

func TestCheckNames(t *testing.T) {
	const base = " model B Real x; parameter Real p; C c; end B; model C parameter Real k; replaceable D d; end C; model D parameter Real j; end D;"
	expect(t, "model A Real x; Real y; B b; end A;"+base, "", api.OK)
	expect(t, "model A Real x; parameter Real x; end A;", "A", api.ErrName)
	expect(t, "model A extends B; Real c; end A;"+base, "A", api.ErrName)
	expect(t, "model A extends B; extends C; Real d; end A;"+base, "A", api.ErrName)
	expect(t, "model A extends B; extends C; extends D; end A;"+base, "", api.OK)
	expect(t, "model A extends B; extends B; end A;"+base, "A", api.ErrName)
	expect(t, "model E extends F; end E; model F Real x; Real x; end F;", "E", api.ErrName)
	expect(t, "model G extends F; end G; model F Real x; Real x; end F;", "F", api.ErrName)
	// what extends clauses modify
	expect(t, "model A extends B(x(start = 1), p = 2, c(k = 1)); end A;"+base, "", api.OK)
	expect(t, "model A extends E(x(start = 1), p = 2, c(k = 1)); end A; model E extends B; end E;"+base, "", api.OK)
	for _, unknown := range []string{"y = 1", "y(start = 1)", "redeclare C y", "x(start = 1), k = 1", "X = 1", "z = 1"} {
		expect(t, "model A extends B("+unknown+"); Real z; end A;"+base, "A", api.ErrName)
	}
	// the same said twice, in lists at any level
	for _, list := range []string{"c(k = 1), c(d(j = 1))", "c(k = 1, k = 2)", "c(k = 1, d(j = 1), k = 1)", "c(d(j = 1), d(j = 1))",
		"c(redeclare D d, redeclare D d)", "c(d(j = 1, j = 2))"} {
		expect(t, "model A extends B("+list+"); end A;"+base, "A", api.ErrName)
		expect(t, "model A E e("+list+"); end A; model E extends B; end E;"+base, "A", api.ErrName)
	}
	expect(t, "model A extends B(p = 1, p = 2); end A;"+base, "A", api.ErrName)
	expect(t, "model A Real x(start = 1, start = 1); end A;", "A", api.ErrName)
	expect(t, "model A extends C(redeclare D d, redeclare D d); end A;"+base, "A", api.ErrName)
	expect(t, "model A E e(b(c(d(j = 1, j = 1)))); end A; model E B b; end E;"+base, "A", api.ErrName)
	// different things that are said of one name
	expect(t, "model A extends C(redeclare D d, d(j = 1), k = 1); C c(d(j = 1), redeclare D d); end A;"+base, "", api.OK)
	// a list is there only where it is written
	expect(t, "model E extends F; end E; model F Real x(start = 1, start = 1); end F;", "F", api.ErrName)
}

func TestCheckClasses(t *testing.T) {
	expect(t, "model A B b; C c; Real x; parameter Integer n; discrete Boolean m; end A; model B end B; connector C end C;", "", api.OK)
	expect(t, "model A B b; end A;", "A", api.ErrName)
	expect(t, "model A real x; end A;", "A", api.ErrName)
	expect(t, "connector A Real x; B b; end A;", "A", api.ErrName)
	expect(t, "model A extends B; end A; model B X x; end B;", "A", api.ErrName)
	expect(t, "model C extends B; end C; model B X x; end B;", "B", api.ErrName)
	expect(t, "model A extends B(redeclare X c); end A; model B replaceable C c; end B; model C end C;", "A", api.ErrName)
	expect(t, "model A extends B(redeclare C c); end A; model B replaceable X c; end B; model C end C;", "B", api.ErrName)
}

// N5, for every prefix and class
func TestCheckPrefixes(t *testing.T) {
	const others = " model Model end Model; connector Pin end Pin;"
	allowed := map[string]string{
		"model": "; Real; Model; Pin;parameter Real;parameter Integer;parameter Boolean;" +
			"discrete Real;discrete Boolean;input Real;",
		"connector": "; Real;flow Real;",
	}
	for kind, list := range allowed {
		for _, prefix := range []string{"", "parameter", "discrete", "input", "flow"} {
			for _, class := range []string{"Real", "Integer", "Boolean", "Model", "Pin"} {
				name, err := "A", api.ErrType
				if strings.Contains(list, ";"+prefix+" "+class+";") {
					name, err = "", api.OK
				}
				both := prefix + " " + class
				expect(t, kind+" A "+both+" x; end A;"+others, name, err)
				expect(t, kind+" A Real y; "+both+" x; end A;"+others, name, err)
				// with a value
				mayHave, e := name, err
				if prefix != "parameter" {
					mayHave, e = "A", api.ErrType
				}
				expect(t, kind+" A "+both+" x = 1; end A;"+others, mayHave, e)
				// replaceable
				mayHave, e = name, err
				if class != "Model" && class != "Pin" {
					mayHave, e = "A", api.ErrType
				}
				expect(t, kind+" A replaceable "+both+" x; end A;"+others, mayHave, e)
				// with dimensions
				mayHave, e = name, err
				if kind == "connector" {
					mayHave, e = "A", api.ErrType
				}
				expect(t, kind+" A "+both+" x[2]; end A;"+others, mayHave, e)
			}
		}
	}
	expect(t, "connector A Real v(start = 1, unit = \"V\"); flow Real i(start = 0); end A;", "", api.OK)
	expect(t, "connector A Real v; equation v = 1; end A;", "A", api.ErrType)
	expect(t, "connector A Real v; initial equation v = 1; end A;", "A", api.ErrType)
	expect(t, "connector A extends B; end A; connector B equation 1 = 1; end B;", "A", api.ErrType)
	// what is inherited, and put over it
	expect(t, "model A extends B; end A; model B input Integer n; end B;", "A", api.ErrType)
	expect(t, "model A extends B(x = 1); end A; model B Real x; end B;", "A", api.ErrType)
	expect(t, "model B extends A(x = 1); end B; model A discrete Real x; end A;", "B", api.ErrType)
	expect(t, "model A extends B(c = 1); end A; model B C c; end B; model C end C;", "A", api.ErrType)
	expect(t, "model A extends B(redeclare Real c); end A; model B replaceable C c; end B; model C end C;", "A", api.ErrType)
}

func TestCheckWithin(t *testing.T) {
	const parts = " model B replaceable C c; end B; model C end C; model E B b; end E;"
	expect(t, "model A B b; B bb[2]; C c; end A;"+parts, "", api.OK)
	expect(t, "model A A a; end A;", "A", api.ErrCycle)
	expect(t, "model A A a[0]; end A;", "A", api.ErrCycle)
	expect(t, "model B A a; end B; model A B b; end A;", "A", api.ErrCycle)
	expect(t, "model C B b; end C; model B Real x; A a; end B; model A D d; C c; end A; model D end D;", "A", api.ErrCycle)
	// the first one is one of the circle
	expect(t, "model A B b; end A; model B B b; end B;", "B", api.ErrCycle)
	expect(t, "model A B b; end A; model C B b; end C; model B C c; end B;", "B", api.ErrCycle)
	// inherited components
	expect(t, "model A extends B; end A; model B A a; end B;", "A", api.ErrCycle)
	expect(t, "model A B b; end A; model B extends C; end B; model C A a; end C;", "A", api.ErrCycle)
	// to inherit from a class is not to have one
	expect(t, "model A extends B; C c; end A; model B end B; model C B b; end C;", "", api.OK)
	// redeclared ones
	expect(t, "model A extends C; B b(redeclare A c); end A;"+parts, "A", api.ErrCycle)
	expect(t, "model A extends C; E e(b(redeclare A c)); end A;"+parts, "A", api.ErrCycle)
	expect(t, "model A extends C; B b(redeclare D c); end A; model D extends C; A a; end D;"+parts, "A", api.ErrCycle)
	expect(t, "model A extends B(redeclare D c); end A; model D extends C; A a; end D;"+parts, "A", api.ErrCycle)
	expect(t, "model A extends E(b(redeclare D c)); end A; model D extends C; A a; end D;"+parts, "A", api.ErrCycle)
	expect(t, "model A B b(redeclare D c); end A; model D extends C; Real x; end D;"+parts, "", api.OK)
	// before it is asked whether they may be
	expect(t, "model A B b(redeclare A c); end A;"+parts, "A", api.ErrCycle)
	// what b redeclares within it is no component of the class B
	expect(t, "model A B b(redeclare B c); end A;"+parts, "A", api.ErrType)
	expect(t, "model A B b(redeclare F c); end A; model F extends C; B b; end F;"+parts, "", api.OK)
}

func TestCheckRedeclarations(t *testing.T) {
	const parts = ` model B replaceable C c; C fix; replaceable P p; parameter Real k; end B;
		model C end C; model D extends C; replaceable C e; C f; Real x; end D; model DD extends D; Real y; end DD;
		model O end O; connector P Real v; end P; connector Q extends P; Real w; end Q;`
	for list, ok := range map[string]bool{
		"redeclare C c":                                       true, // its own class
		"redeclare D c":                                       true,
		"redeclare DD c":                                      true,
		"redeclare D c, redeclare Q p":                        true,
		"redeclare C c, redeclare O p":                        false,
		"redeclare D fix":                                     false,
		"redeclare C fix":                                     false,
		"redeclare O c":                                       false,
		"redeclare P c":                                       false,
		"redeclare B c":                                       false,
		"redeclare C k":                                       false,
		"redeclare DD c, c(redeclare D e)":                    true,
		"c(redeclare D e), redeclare D c":                     true,
		"redeclare D c, c(redeclare O e)":                     false,
		"redeclare D c, c(redeclare D f)":                     false,
		"redeclare D c, c(redeclare C x)":                     false,
		"c(redeclare D e)":                                    false, // which the class C does not have
		"redeclare DD c, c(e(redeclare D e))":                 false, // C neither
		"redeclare DD c, c(redeclare D e, e(redeclare DD e))": true,
		"redeclare DD c, c(redeclare D e, e(redeclare O e))":  false,
		"k(redeclare C start)":                                false,
	} {
		name, err := "", api.OK
		if !ok {
			name, err = "A", api.ErrType
		}
		expect(t, "model A extends B("+list+"); end A;"+parts, name, err)
		expect(t, "model A B b("+list+"); end A;"+parts, name, err)
		expect(t, "model A G g(b("+list+")); end A; model G B b; end G;"+parts, name, err)
	}
	expect(t, "model A B b(redeclare X c); end A;"+parts, "A", api.ErrType)
	expect(t, "model A B b(redeclare Real c); end A;"+parts, "A", api.ErrType)
	expect(t, "model A B b(redeclare C x); end A;"+parts, "A", api.ErrType)
	expect(t, "model A Real x(redeclare C start); end A;"+parts, "A", api.ErrType)
	// it may be redeclared again, each time as what it is by then
	expect(t, "model A extends F(redeclare DD c); end A; model F extends B(redeclare D c); end F;"+parts, "", api.OK)
	expect(t, "model A extends F(redeclare D c); end A; model F extends B(redeclare D c); end F;"+parts, "", api.OK)
	expect(t, "model A extends F(redeclare C c); end A; model F extends B(redeclare D c); end F;"+parts, "A", api.ErrType)
	expect(t, "model A F f(redeclare C c); end A; model F extends B(redeclare D c); end F;"+parts, "A", api.ErrType)
	// what is within a list of an extends clause is asked for where it is put
	expect(t, "model A extends F(b(c(redeclare D e))); end A; model F B b(redeclare D c); end F;"+parts, "", api.OK)
	expect(t, "model A extends F(b(redeclare C c)); end A; model F B b(redeclare D c, c(redeclare D e)); end F;"+parts, "A", api.ErrType)
	expect(t, "model A extends F(b(redeclare C c)); end A; model F B b(redeclare D c); end F;"+parts, "", api.OK)
	// and what the class of a component says of its own components is not looked at
	expect(t, "model A F f(b(c(redeclare D e))); end A; model F B b(redeclare D c); end F;"+parts, "A", api.ErrType)
	expect(t, "model A F f(b(redeclare C c)); end A; model F B b(redeclare D c, c(redeclare D e)); end F;"+parts, "", api.OK)
	// the first class, and redeclarations ahead of other modifications
	expect(t, "model A extends F; end A; model F B b(redeclare O c); end F;"+parts, "A", api.ErrType)
	expect(t, `model A Real x(unit = 1); end A; model F B b(redeclare O c); end F;`+parts, "F", api.ErrType)
	expect(t, `model A Real x(unit = 1); end A; model F B b(nothing(redeclare O c)); end F;`+parts, "F", api.ErrType)
	expect(t, `model A Real x(unit = 1); end A; model F Real x(redeclare C start); end F;`+parts, "F", api.ErrType)
	expect(t, `model A Real x(unit = 1); end A; model F extends B(redeclare O c); end F;`+parts, "F", api.ErrType)
	expect(t, `model A Real x(unit = 1); end A; model F B b(nothing = 1); end F;`+parts, "A", api.ErrType)
}

func TestCheckAttributes(t *testing.T) {
	const all = `start = 1, fixed = true, unit = "V"`
	starts := []string{"start = 1", "start = x + 1", "start = true"}
	ofReal := append([]string{"fixed = true", "fixed = 1", `unit = "m"`, all}, starts...)
	allowed := map[string][]string{
		"Real":              ofReal,
		"discrete Real":     ofReal,
		"parameter Real":    {`unit = "m"`},
		"input Real":        {`unit = "m"`},
		"discrete Boolean":  starts,
		"parameter Boolean": {},
		"parameter Integer": {},
	}
	lists := append(ofReal, `start = "m"`, `fixed = "true"`, "unit = 1", "start = 1, unit = 1", "value = 1", "Start = 1", "x = 1",
		"start(start = 1)", `unit(unit = "m")`, "fixed(a = 1)", "redeclare O start")
	for class, list := range allowed {
		for _, mods := range lists {
			ok := slices.Contains(list, mods)
			name, err := "", api.OK
			if !ok {
				name, err = "A", api.ErrType
			}
			const other = " model O end O;"
			expect(t, "model A "+class+" x("+mods+"); end A;"+other, name, err)
			expect(t, "model A extends B(x("+mods+")); end A; model B "+class+" x; end B;"+other, name, err)
			expect(t, "model A B b(x("+mods+")); end A; model B extends C; end B; model C "+class+" x; end C;"+other, name, err)
		}
	}
	expect(t, `connector A flow Real i(start = 1, fixed = true, unit = "A"); end A;`, "", api.OK)
	expect(t, `connector A flow Real i(start = "1"); end A;`, "A", api.ErrType)
	expect(t, `model A P p(v(start = 1)); end A; connector P Real v; end P;`, "", api.OK)
	expect(t, `model A P p(v = 1); end A; connector P Real v; end P;`, "A", api.ErrType)
}

func TestCheckModifications(t *testing.T) {
	const parts = ` model B parameter Real k; parameter Integer n = 1; parameter Boolean m; Real x; discrete Real y; input Real u;
		replaceable C c; parameter Real start; parameter Real unit; Real fixed; end B;
		model C parameter Real j; end C; model D extends C; parameter Real i; Real z; end D;`
	for list, ok := range map[string]bool{
		"k = 2":                             true,
		"k = a.b + 1, n = 2":                true,
		"m = true":                          true,
		`k = "m"`:                           false,
		"x = 1":                             false,
		"y = 1":                             false,
		"u = 1":                             false,
		"c = 1":                             false,
		"c(j = 1)":                          true,
		"c(i = 1)":                          false,
		"c(j = 1, x = 1)":                   false,
		`c(j = "m")`:                        false,
		"redeclare D c, c(i = 1)":           true,
		"c(i = 1, j = 2), redeclare D c":    true,
		"redeclare D c, c(z = 1)":           false,
		"redeclare D c, c(z(start = 1))":    true,
		"redeclare D c, c(z(begin = 1))":    false,
		"redeclare D c, c(i(unit = \"m\"))": true,
		"redeclare D c, c(i(start = 1))":    false,
		"redeclare D c, c(i(unit = \"m\"), x = 1)": false,
		"k = 1, k(unit = \"m\")":                   true,
		// components that are called as attributes are
		"start = 1":           true,
		`start = "m"`:         false,
		"unit = 1":            true,
		`unit = "m"`:          false,
		"fixed = true":        false,
		"fixed(fixed = true)": true,
		"unit(unit = \"m\")":  true,
	} {
		name, err := "", api.OK
		if !ok {
			name, err = "A", api.ErrType
		}
		expect(t, "model A extends B("+list+"); end A;"+parts, name, err)
		expect(t, "model A B b("+list+"); end A;"+parts, name, err)
		expect(t, "model A B b[3]("+list+"); end A;"+parts, name, err)
		expect(t, "model A E e(b("+list+")); end A; model E F f; B b; end E; model F end F;"+parts, name, err)
		expect(t, "model A extends E(b("+list+")); end A; model E B b(k = 1); end E;"+parts, name, err)
	}
	expect(t, "model A B b(nothing = 1); end A;"+parts, "A", api.ErrType)
	expect(t, "model A B b(nothing(x = 1)); end A;"+parts, "A", api.ErrType)
	expect(t, "model A B b(B = 1); end A;"+parts, "A", api.ErrType)
	// as merged with what is written further within
	expect(t, "model A extends E(b(c(i = 1))); end A; model E B b(redeclare D c); end E;"+parts, "", api.OK)
	expect(t, "model A extends E(b(redeclare C c)); end A; model E B b(redeclare D c, c(i = 1)); end E;"+parts, "A", api.ErrType)
	expect(t, "model A E e(b(c(i = 1))); end A; model E B b(redeclare D c); end E;"+parts, "A", api.ErrType)
	expect(t, "model A E e(b(redeclare C c)); end A; model E B b(redeclare D c, c(i = 1)); end E;"+parts, "", api.OK)
	// as it is redeclared by the clause
	expect(t, "model A extends B(redeclare D c); end A;"+parts, "", api.OK)
	expect(t, "model A extends E(c(i = 1)); end A; model E extends B(redeclare D c); end E;"+parts, "", api.OK)
	// the first class
	expect(t, "model F B b(x = 1); end F; model E extends F; end E;"+parts, "E", api.ErrType)
}

// Each class of a library breaks another rule, the later ones those with the lesser names.
func TestCheckOrder(t *testing.T) {
	broken := []struct {
		text string
		err  api.Errno
	}{
		{"model I extends Nothing; end I;", api.ErrName},
		{"model H extends H; end H;", api.ErrCycle},
		{"model G " + strings.Repeat("extends Ten; ", 40) + "equation 1 = 1; end G;", api.ErrSize},
		{"model F Real x; Real x; end F;", api.ErrName},
		{"model E Nothing x; end E;", api.ErrName},
		{"model D input Integer x; end D;", api.ErrType},
		{"model C C x; end C;", api.ErrCycle},
		{"model B Some x(redeclare Ten x); end B;", api.ErrType},
		{"model A Some x(y = 1); end A;", api.ErrType},
	}
	rest := "model Some Real x; end Some; model Ten equation " + strings.Repeat("1 = 1; ", 10) + "end Ten;"
	expect(t, rest, "", api.OK)
	for i, first := range broken {
		text := rest
		for _, x := range broken[i:] {
			text = x.text + text
		}
		name := strings.Fields(first.text)[1]
		expect(t, text, name, first.err)
	}
}

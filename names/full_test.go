package names_test

import (
	"testing"

	"linkwork/api"
	"linkwork/names"
)

const circuit = `
connector Pin Real v; flow Real i; end Pin;
model TwoPin Pin p; Pin n; Real v; equation v = p.v - n.v; p.i + n.i = 0; end TwoPin;
model R extends TwoPin; parameter Real r = 1; equation v = r * p.i; end R;
`

// wants asks for the components of a full class.
func wants(t *testing.T, text, name, want string) {
	t.Helper()
	c := fullOf(t, parse(t, text), name)
	if got := components(c.Comps); got != want || c.Name != name || len(c.Extends) > 0 {
		t.Errorf("Full(%s, %s): %s %s, want %s", text, name, c.Name, got, want)
	}
}

func TestFull(t *testing.T) {
	lib := parse(t, circuit)
	c := fullOf(t, lib, "R")
	if c.Kind != "model" || c.Name != "R" || components(c.Comps) != "Pin p; Pin n; Real v; parameter Real r = 1" ||
		statements(c.Eqs) != "v = p . v - n . v ; p . i + n . i = 0 ; v = r * p . i ;" || len(c.Inits)+len(c.Extends) > 0 {
		t.Errorf("Full: %+v", c)
	}
	if c := fullOf(t, lib, "Pin"); c.Kind != "connector" || components(c.Comps) != "Real v; flow Real i" || len(c.Eqs) > 0 {
		t.Errorf("Full: %+v", c)
	}
	wants(t, circuit+"model S extends R(r = 2); end S;", "S", "Pin p; Pin n; Real v; parameter Real r = 2")
}

// Components and statements are those of the clauses, in their order, and then the own ones.
func TestFullOrder(t *testing.T) {
	lib := parse(t, `
		model A Real z; extends B; Real y; extends C; equation 1 = y; connect(p, q); initial equation 1 = y; end A;
		model B Real b; parameter Real a; extends D; equation 2 = b; 2 = b; initial equation 2 = b; 2 = a; end B;
		model C Real c; extends E; extends E; equation 3 = c; end C;
		model D Real d[2]; equation 4 = d; initial equation 4 = d; end D;
		model E equation 5 = 5; end E;`)
	c := fullOf(t, lib, "A")
	if got := components(c.Comps); got != "Real d[2]; Real b; parameter Real a; Real c; Real z; Real y" {
		t.Errorf("components: %s", got)
	}
	if got := statements(c.Eqs); got != "4 = d ; 2 = b ; 2 = b ; 5 = 5 ; 5 = 5 ; 3 = c ; 1 = y ; connect ( p , q ) ;" {
		t.Errorf("Eqs: %s", got)
	}
	if got := statements(c.Inits); got != "4 = d ; 2 = b ; 2 = a ; 1 = y ;" {
		t.Errorf("Inits: %s", got)
	}
}

func TestFullModified(t *testing.T) {
	const base = ` model B parameter Real k = 1; Real x(start = 1, fixed = true); parameter Boolean m;
		replaceable C c(j = 1, s(j = 1, h = 1)); end B;
		model C parameter Real j; S s; end C; model D extends C; parameter Real i; end D;
		model S parameter Real j; parameter Real h; parameter Real g; replaceable O o; end S; model O end O; model OO extends O; end OO;`
	const first = `parameter Real k = 1; Real x(fixed=true, start=1); parameter Boolean m; `
	const last = `replaceable C c(j=1, s(h=1, j=1))`
	for clause, want := range map[string]string{
		"":                                   first + last,
		"k = 2":                              `parameter Real k = 2; Real x(fixed=true, start=1); parameter Boolean m; ` + last,
		`k(unit = "m")`:                      `parameter Real k(unit="m") = 1; Real x(fixed=true, start=1); parameter Boolean m; ` + last,
		`k(unit = "m"), k = a`:               `parameter Real k(unit="m") = a; Real x(fixed=true, start=1); parameter Boolean m; ` + last,
		"m = true, k = 0":                    `parameter Real k = 0; Real x(fixed=true, start=1); parameter Boolean m = true; ` + last,
		"x(start = 2)":                       `parameter Real k = 1; Real x(fixed=true, start=2); parameter Boolean m; ` + last,
		`x(unit = "m", start = 2)`:           `parameter Real k = 1; Real x(fixed=true, start=2, unit="m"); parameter Boolean m; ` + last,
		"redeclare D c":                      first + `replaceable D c(j=1, s(h=1, j=1))`,
		"c(s(j = 2))":                        first + `replaceable C c(j=1, s(h=1, j=2))`,
		"c(s(g = 2, redeclare OO o), j = 3)": first + `replaceable C c(j=3, s(g=2, h=1, j=1, redeclare OO o))`,
		"c(i = 2), redeclare D c":            first + `replaceable D c(i=2, j=1, s(h=1, j=1))`,
	} {
		if clause != "" {
			clause = "(" + clause + ")"
		}
		wants(t, "model A extends B"+clause+"; end A;"+base, "A", want)
		wants(t, "model A extends B"+clause+"; Real k2; end A;"+base, "A", want+"; Real k2")
		wants(t, "model AA extends A; end AA; model A extends B"+clause+"; end A;"+base, "AA", want)
		wants(t, "model AA extends A"+clause+"; end AA; model A extends B; end A;"+base, "AA", want)
		wants(t, "model A Real k2; extends B"+clause+"; end A;"+base, "B", first+last)
	}
	// the outer one counts, whatever it is put over
	wants(t, "model A extends E(k = 3, x(start = 3)); end A; model E extends B(k = 2, x(start = 2, fixed = false)); end E;"+base, "A",
		`parameter Real k = 3; Real x(fixed=false, start=3); parameter Boolean m; `+last)
	wants(t, "model A extends E(redeclare DD c); end A; model DD extends D; end DD; model E extends B(redeclare D c, c(j = 2)); end E;"+base, "A",
		first+`replaceable DD c(j=2, s(h=1, j=1))`)
	// each clause modifies what is its own
	wants(t, "model A extends F(k = 2); extends G(l = 3); end A; model F parameter Real k; end F; model G parameter Real l; end G;", "A",
		"parameter Real k = 2; parameter Real l = 3")
	// own modifications are put in order, at all levels
	wants(t, "model A B b(redeclare C c, x(start = 1, fixed = true), c(s(redeclare O o, j = 1, h = 2), j = 1), k(unit = \"m\"), k = 1); end A;"+base, "A",
		`B b(c(j=1, s(h=2, j=1, redeclare O o)), redeclare C c, k=1, k(unit="m"), x(fixed=true, start=1))`)
}

func TestFullErrors(t *testing.T) {
	lib := parse(t, circuit)
	for _, name := range []string{"", "r", "Real", "Integer", "Boolean", "Pin.v", "R "} {
		if c, err := names.Full(lib, name); !same(c, api.Class{}) || err != api.ErrName {
			t.Errorf("Full of %q: %v, %d", name, c, err)
		}
	}
	unsound := append(lib, parse(t, "model A input Integer n; end A;")...)
	for _, name := range []string{"R", "A", "nothing"} {
		if c, err := names.Full(unsound, name); !same(c, api.Class{}) || err != api.ErrType {
			t.Errorf("Full of %q: %v, %d", name, c, err)
		}
	}
}

// Results are new memory, and arguments stay as they are.
func TestFullMemory(t *testing.T) {
	lib := parse(t, `
		model A extends E; extends B(k = 1 + 2, x(start = 1 + 3), c(s(j = 1))); extends E;
			parameter Real l[2, 1 + 1](unit = "m") = {1, 2}; end A;
		model B parameter Real k; Real x; C c; end B; model C S s; end C; model S parameter Real j; end S;
		model E equation x = 1; for i in 1:2 loop if i < 2 then x[i] = 1; else x = 2; end if; end for; connect(a, b[1]);
			when x < 1 then y = 1; reinit(x, 2); end when; initial equation if true then x = 1; end if; end E;`)
	before := clone(lib)
	for _, c := range lib {
		got := fullOf(t, lib, c.Name)
		again := fullOf(t, lib, c.Name)
		if !isNew([]api.Class{got, again}, lib) {
			t.Errorf("Full of %s shares memory", c.Name)
		}
	}
	if !same(lib, before) {
		t.Errorf("the library is %+v, was %+v", lib, before)
	}
	// and what an order does not change is not changed by putting things in order
	list := []api.Mod{{Name: "b", Value: lib[0].Comps[0].Value}, {Name: "a", Mods: []api.Mod{{Name: "d", Class: "D"}, {Name: "c", Class: "C"}}}}
	lib = []api.Class{{Kind: "model", Name: "A", Comps: []api.Comp{{Class: "B", Name: "b", Mods: list}}}}
	before = clone(lib)
	names.Check(lib)
	names.Full(lib, "A")
	if !same(lib, before) {
		t.Errorf("the library is %+v, was %+v", lib, before)
	}
}

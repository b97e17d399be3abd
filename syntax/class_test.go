package syntax_test

import (
	"reflect"
	"strings"
	"testing"

	"linkwork/api"
	"linkwork/syntax"
)

func number(text string) []api.Tree {
	return one(leaf("num", text))
}

func equal(left, right api.Tree) api.Stmt {
	return api.Stmt{Kind: "equal", Left: one(left), Right: one(right)}
}

func TestParseComponents(t *testing.T) {
	x, n := ref("x"), ref("n")
	for text, want := range map[string]api.Comp{
		"Real x;":                          {Class: "Real", Name: "x"},
		"x x;":                             {Class: "x", Name: "x"},
		"parameter Real x = 1;":            {Prefix: "parameter", Class: "Real", Name: "x", Value: number("1")},
		"discrete Real x;":                 {Prefix: "discrete", Class: "Real", Name: "x"},
		"input Real x;":                    {Prefix: "input", Class: "Real", Name: "x"},
		"flow Real x;":                     {Prefix: "flow", Class: "Real", Name: "x"},
		"replaceable Real x;":              {Replaceable: true, Class: "Real", Name: "x"},
		"replaceable parameter Real x;":    {Replaceable: true, Prefix: "parameter", Class: "Real", Name: "x"},
		"Real x[n];":                       {Class: "Real", Name: "x", Dims: one(n)},
		"Real x[2, n + 1];":                {Class: "Real", Name: "x", Dims: []api.Tree{leaf("num", "2"), node("add", n, leaf("num", "1"))}},
		"Real x(start = 1);":               {Class: "Real", Name: "x", Mods: []api.Mod{{Name: "start", Value: number("1")}}},
		`Real x(unit = "m.s-1");`:          {Class: "Real", Name: "x", Mods: []api.Mod{{Name: "unit", Value: one(leaf("string", "m.s-1"))}}},
		`Real x(unit = "");`:               {Class: "Real", Name: "x", Mods: []api.Mod{{Name: "unit", Value: one(leaf("string", ""))}}},
		"A x(redeclare B y);":              {Class: "A", Name: "x", Mods: []api.Mod{{Name: "y", Class: "B"}}},
		"A x(y(z = 1), redeclare B b);":    {Class: "A", Name: "x", Mods: []api.Mod{{Name: "y", Mods: []api.Mod{{Name: "z", Value: number("1")}}}, {Name: "b", Class: "B"}}},
		"A x(y(z = 1), y = 2, z = n);":     {Class: "A", Name: "x", Mods: []api.Mod{{Name: "y", Mods: []api.Mod{{Name: "z", Value: number("1")}}}, {Name: "y", Value: number("2")}, {Name: "z", Value: one(n)}}},
		"A x(y(redeclare B b));":           {Class: "A", Name: "x", Mods: []api.Mod{{Name: "y", Mods: []api.Mod{{Name: "b", Class: "B"}}}}},
		"Real x = if n then x else n;":     {Class: "Real", Name: "x", Value: one(node("if", n, x, n))},
		"A x(y = if n then x else n);":     {Class: "A", Name: "x", Mods: []api.Mod{{Name: "y", Value: one(node("if", n, x, n))}}},
		"A x(y = (x));":                    {Class: "A", Name: "x", Mods: []api.Mod{{Name: "y", Value: one(x)}}},
		"parameter A x[n](y = {1}) = {n};": {Prefix: "parameter", Class: "A", Name: "x", Dims: one(n), Mods: []api.Mod{{Name: "y", Value: one(node("list", leaf("num", "1")))}}, Value: one(node("list", n))},
	} {
		want := []api.Class{{Kind: "model", Name: "M", Comps: []api.Comp{want}}}
		if got := parse(t, "model M "+text+" end M;"); !same(got, want) {
			t.Errorf("%s: %+v, want %+v", text, got, want)
		}
	}
}

func TestParseStatements(t *testing.T) {
	a, b, c := ref("a"), ref("b"), ref("c")
	is := equal(a, b)
	for text, want := range map[string]api.Stmt{
		"a = b;":                               is,
		"a + b = -c;":                          equal(node("add", a, b), node("neg", c)),
		"der(a) = b;":                          equal(node("der", a), b),
		"0 = a;":                               equal(leaf("num", "0"), a),
		"{a, b} = c;":                          equal(node("list", a, b), c),
		"-a = b;":                              equal(node("neg", a), b),
		"not a = b;":                           equal(node("not", a), b),
		"a or b = b or c;":                     equal(node("or", a, b), node("or", b, c)),
		"a == b = c;":                          equal(node("equal", a, b), c),
		"a = b == c;":                          equal(a, node("equal", b, c)),
		"(a = b;":                              {},
		"(a) = (b);":                           is,
		"a = if b then c else a;":              equal(a, node("if", b, c, a)),
		"(if a then b else c) = a;":            equal(node("if", a, b, c), a),
		"(if a then b else c)+a = a;":          equal(node("add", node("if", a, b, c), a), a),
		"initial() = a;":                       equal(leaf("initial", ""), a),
		"a = initial();":                       equal(a, leaf("initial", "")),
		"connect(a, b);":                       {Kind: "connect", Left: one(a), Right: one(b)},
		"connect(a.b, c);":                     {Kind: "connect", Left: one(ref("a.b")), Right: one(c)},
		"for i in 1:2 loop a = b; end for;":    {Kind: "for", Var: "i", From: number("1"), To: number("2"), Body: []api.Stmt{is}},
		"for i in 1:2 loop end for;":           {Kind: "for", Var: "i", From: number("1"), To: number("2")},
		"for a in a+b:-c loop is(a); end for;": {},
		"for a in a+b:-c loop a = b; connect(a, b); end for;": {Kind: "for", Var: "a", From: one(node("add", a, b)), To: one(node("neg", c)),
			Body: []api.Stmt{is, {Kind: "connect", Left: one(a), Right: one(b)}}},
		"for i in if a then b else c:if a then b else c loop end for;": {Kind: "for", Var: "i", From: one(node("if", a, b, c)), To: one(node("if", a, b, c))},
		"if c then a = b; end if;":                                     {Kind: "if", Cond: one(c), Body: []api.Stmt{is}},
		"if c then a = b; else end if;":                                {Kind: "if", Cond: one(c), Body: []api.Stmt{is}},
		"if c then else a = b; a = b; end if;":                         {Kind: "if", Cond: one(c), Else: []api.Stmt{is, is}},
		"if c then end if;":                                            {Kind: "if", Cond: one(c)},
		"if c then else end if;":                                       {Kind: "if", Cond: one(c)},
		"if if a then b else c then a = b; end if;":                    {Kind: "if", Cond: one(node("if", a, b, c)), Body: []api.Stmt{is}},
		"if (if a then b else c) or a then end if;":                    {Kind: "if", Cond: one(node("or", node("if", a, b, c), a))},
		"if a then b = if a then b else c; else end if;":               {Kind: "if", Cond: one(a), Body: []api.Stmt{equal(b, node("if", a, b, c))}},
		"if a then if b then a = b; else a = b; end if; else a = b; end if;": {Kind: "if", Cond: one(a),
			Body: []api.Stmt{{Kind: "if", Cond: one(b), Body: []api.Stmt{is}, Else: []api.Stmt{is}}}, Else: []api.Stmt{is}},
		"when a then a = b; end when;": {Kind: "when", Cond: one(a), Body: []api.Stmt{is}},
		"when sample(0, 1) then reinit(a, b + c); a.b = if a then b else c; end when;": {Kind: "when", Cond: one(node("sample", leaf("num", "0"), leaf("num", "1"))),
			Body: []api.Stmt{{Kind: "reinit", Left: one(a), Right: one(node("add", b, c))}, equal(ref("a.b"), node("if", a, b, c))}},
		"for i in 1:2 loop if a then when b then a = b; end when; end if; end for;": {Kind: "for", Var: "i", From: number("1"), To: number("2"),
			Body: []api.Stmt{{Kind: "if", Cond: one(a), Body: []api.Stmt{{Kind: "when", Cond: one(b), Body: []api.Stmt{is}}}}}},
	} {
		source := "model M equation " + text + " end M;"
		if want.Kind == "" {
			if _, err := syntax.Parse(source); err != api.ErrForm {
				t.Errorf("%s: %d", text, err)
			}
			continue
		}
		class := []api.Class{{Kind: "model", Name: "M", Eqs: []api.Stmt{want}}}
		if got := parse(t, source); !same(got, class) {
			t.Errorf("%s: %+v, want %+v", text, got, class)
		}
		if strings.Contains(text, "connect") || strings.Contains(text, "when") {
			continue
		}
		class = []api.Class{{Kind: "model", Name: "M", Inits: []api.Stmt{want}}}
		if got := parse(t, "model M initial equation "+text+" end M;"); !same(got, class) {
			t.Errorf("%s: %+v, want %+v", text, got, class)
		}
	}
}

func TestParseClasses(t *testing.T) {
	x := api.Comp{Class: "Real", Name: "x"}
	y := api.Comp{Class: "Real", Name: "y"}
	is, other := equal(ref("x"), ref("y")), equal(ref("y"), ref("x"))
	for text, want := range map[string][]api.Class{
		"":                   nil,
		"// model":           nil,
		"model A end A;":     {{Kind: "model", Name: "A"}},
		"connector A end A;": {{Kind: "connector", Name: "A"}},
		"model A end A; connector B end B; model A end A;": {{Kind: "model", Name: "A"}, {Kind: "connector", Name: "B"}, {Kind: "model", Name: "A"}},
		"model Real extends Real; end Real;":               {{Kind: "model", Name: "Real", Extends: []api.Extend{{Class: "Real"}}}},
		"model A extends B(x = 1, redeclare C c); end A;": {{Kind: "model", Name: "A",
			Extends: []api.Extend{{Class: "B", Mods: []api.Mod{{Name: "x", Value: number("1")}, {Name: "c", Class: "C"}}}}}},
		"model A Real x; extends B; Real y; extends C; end A;": {{Kind: "model", Name: "A",
			Extends: []api.Extend{{Class: "B"}, {Class: "C"}}, Comps: []api.Comp{x, y}}},
		"model A equation end A;":                              {{Kind: "model", Name: "A"}},
		"model A initial equation end A;":                      {{Kind: "model", Name: "A"}},
		"model A equation initial equation end A;":             {{Kind: "model", Name: "A"}},
		"model A equation x = y; end A;":                       {{Kind: "model", Name: "A", Eqs: []api.Stmt{is}}},
		"model A initial equation x = y; end A;":               {{Kind: "model", Name: "A", Inits: []api.Stmt{is}}},
		"model A equation initial equation x = y; end A;":      {{Kind: "model", Name: "A", Inits: []api.Stmt{is}}},
		"model A equation x = y; initial equation end A;":      {{Kind: "model", Name: "A", Eqs: []api.Stmt{is}}},
		"model A equation x=y; initial equation y=x; end A;":   {{Kind: "model", Name: "A", Eqs: []api.Stmt{is}, Inits: []api.Stmt{other}}},
		"connector A Real x; equation x=y; y=x; x=y; end A;":   {{Kind: "connector", Name: "A", Comps: []api.Comp{x}, Eqs: []api.Stmt{is, other, is}}},
		"model A Real x; Real x; initial equation y=x; end A;": {{Kind: "model", Name: "A", Comps: []api.Comp{x, x}, Inits: []api.Stmt{other}}},
		"model A Real x(start = 1); equation der(x) = -2 * x; end A;": {{Kind: "model", Name: "A",
			Comps: []api.Comp{{Class: "Real", Name: "x", Mods: []api.Mod{{Name: "start", Value: number("1")}}}},
			Eqs:   []api.Stmt{equal(node("der", ref("x")), node("neg", node("mul", leaf("num", "2"), ref("x"))))}}},
	} {
		if got := parse(t, text); !same(got, want) {
			t.Errorf("%s: %+v, want %+v", text, got, want)
		}
	}
}

func malformed(t *testing.T, before, after string, texts ...string) {
	t.Helper()
	for _, text := range texts {
		source := before + text + after
		if got, err := syntax.Parse(source); len(got) > 0 || err != api.ErrForm {
			t.Errorf("Parse(%.90q): %+v, %d", source, got, err)
		}
	}
}

func TestParseMalformedClasses(t *testing.T) {
	malformed(t, "", "",
		"x", ";", "end", "model", "model A", "model A end", "model A end A", "model A end B;", "model A end a;", "model A end A.;", "end A;",
		"model A; end A;", "class A end A;", "A end A;", "model A end A;;", ";model A end A;", "model A end A; model", "model A end A; x = y;",
		"model 1 end 1;", "model model end model;", `model "A" end "A";`, `"model" A end A;`, "model A B end A;", "model A.B end A.B;", "model A() end A;",
		"model A end A; model A end B;", "model A model B end B; end A;", "connector model A end A;", "model connector end connector;", "initial equation",
		"model A initial end A;", "model A initial x = y; end A;", "model A initial() = y; end A;", "model A x = y; end A;",
		"model A equation equation end A;", "model A equation x = y; equation end A;", "model A equation x = y; equation y = x; end A;",
		"model A initial equation equation end A;", "model A initial equation x = y; equation y = x; end A;",
		"model A initial equation initial equation end A;", "model A equation initial equation initial equation end A;",
		"model A equation initial end A;", "model A equation initial x = y; end A;", "model A equation else end A;", "model A equation x = y; else y = x; end A;",
		"model A equation Real x; end A;", "model A equation extends B; end A;", "model A equation x = y; Real z; end A;", "model A equation x = y; end; end A;",
		"model A equation x = y end A;", "model A equation x = y;", "model A equation", "model A equation x = y; end", "model A equation end for; end A;",
		"model A initial equation else end A;", "model A initial equation Real x; end A;", "$", "model A $ end A;", `model A " end A;`)
	malformed(t, "model A ", " end A;",
		"extends", "extends;", "extends B", "extends B,C;", "extends B C;", "extends Real[2];", "extends B = 1;", `extends "B";`, "extends flow;", "extends B.C;",
		"extends (x = 1);", "extends replaceable B;", "extends B();", "extends B(x);", "extends B(x = 1", "extends B(x = 1;", "extends B(x = 1)", "extends B(x = 1)(y = 1);",
		"Real", "Real;", "Real x", "Real x y;", "Real x, y;", "Real 1;", "Real end;", "Real x.y;", "A.B x;", "1 x;", `Real "x";`, "model x;", "Real x;;",
		"Real x := 1;", "Real x == 1;", "Real x : 1;", "Real x 1;", "Real x =;", "Real x = 1 = 2;", `Real x = "a";`, "Real x = {};", "Real x = 1 2;",
		"Real x[];", "Real x[1,2,3];", "Real x[1,];", "Real x[1;", "Real x[1]];", "Real x[1][2];", "Real x[1 2];", "Real x[:];", "Real[2] x;", `Real x["a"];`,
		"Real x(start = 1)[2];", "Real x = 1(start = 2);", "Real x[2] = ;", "Real x();", "Real x(start = 1)();",
		"constant Real x;", "parameter;", "parameter x;", "replaceable x;", "flow x;", "parameter parameter Real x;", "parameter flow Real x;", "flow input Real x;", "input discrete Real x;",
		"parameter replaceable Real x;", "replaceable replaceable Real x;", "redeclare Real x;", "redeclare replaceable A x;", "output Real x y;", "extends parameter Real x;")
	malformed(t, "model A B b(", "); end A;",
		"x", "x,", ",", "x = ", "x = 1,", ",x = 1", "x = 1,,y = 2", "x = 1 y = 2", "x = 1;", "x == 1", "x := 1", "= 1", "1 = 2", "end = 1", `"x" = 1`,
		"x = 1 2", "x(y)", "x()", "x(y = 1", "x(y = 1))", "x(y = 1) = 2", "x = 2(y = 1)", "x = (y = 1)", "x(y = 1)(z = 1)", "x.y = 1", "x[1] = 1", "x[1](y = 1)",
		`x = "a" + "b"`, `x = ("a")`, `x = {"a"}`, `x = "a" "b"`, `x = -"a"`, `x = if "a" then "b" else "c"`, `x "a"`, "x = {}", "x(y())", "x(y(z))",
		"redeclare", "redeclare C", "redeclare C c d", "redeclare C c = 1", "redeclare C c(x = 1)", "redeclare C c[2]", "redeclare C.D c", "redeclare C end",
		"redeclare 1 c", "redeclare C 1", "redeclare redeclare C c", "redeclare replaceable C c", "replaceable C c", "redeclare parameter C c", "C c", "redeclare C = 1", "c = redeclare C")
}

func TestParseMalformedStatements(t *testing.T) {
	both := []string{
		"a", "a;", "a = b", "a = b,", "a = b;;", ";", "= b;", "a = ;", "a == b;", "a := b;", "a = b = c;", "a b;", "a = b c;", "1;", "a = (b;", "a) = b;",
		`"a" = b;`, `a = "b";`, "if a then b else c = d;", "a or if b then c else d = e;", "a = b; c", "a = b; ,", "a < b < c = d;", "a * -b = c;", "- -a = c;",
		"{} = a;", "a[] = b;", "reinit(a, b);", "reinit(a, b) = c;", "then a = b;", "end for;", "end if;", "end;", "else", "else a = b;", "Real x;", "extends B;", "flow = a;", "end = a;",
		"for", "for i", "for in 1:2 loop end for;", "for i 1:2 loop end for;", "for i in loop end for;", "for i in 1 loop end for;", "for i in 1: loop end for;", "for i in :2 loop end for;",
		"for i in 1:2 loop", "for i in 1:2 end for;", "for i in 1:2 then end for;", "for i in 1:2 a = b; end for;", "for i in 1:2 loop end for", "for i in 1:2 loop end;", "for i in 1:2 loop end if;",
		"for i in 1:2 loop end loop;", "for i in 1:2:3 loop end for;", "for i in {1,2} loop end for;", "for i in 1:2, j in 1:2 loop end for;", "for 1 in 1:2 loop end for;", "for a.b in 1:2 loop end for;",
		"for a[1] in 1:2 loop end for;", "for time in 1:2 loop end for;", "for i = 1:2 loop end for;", "for i in 1:2 loop a = b end for;", "for i in 1:2 loop a = b; else a = b; end for;", "for i in (1:2) loop end for;",
		"for i in 1:2 loop reinit(a, b); end for;", "for i in 1:2 loop initial equation end for;", "for i in 1:2 loop Real x; end for;", "for (i in 1:2) loop end for;", "for i in 1:2 loop equation end for;",
		"if", "if a", "if a then", "if then end if;", "if a end if;", "if a then a = b end if;", "if a then a = b; end if", "if a then a = b; end;", "if a then a = b; end for;", "if a then a = b; end when;",
		"if a then a = b;", "if a loop a = b; end if;", "if a then else else end if;", "if a then a = b; else a = b; else a = b; end if;", "if a then a = b; elseif b then a = b; end if;", "if a then reinit(a, b); end if;",
		"if a else a = b; end if;", "if a then b else c end if;", "if a then initial equation end if;", "if a then else reinit(a, b); end if;", "if a, b then end if;", "if a = b then end if;",
	}
	malformed(t, "model A equation ", " end A;", both...)
	malformed(t, "model A initial equation ", " end A;", both...)
	malformed(t, "model A equation ", " end A;",
		"connect", "connect;", "connect();", "connect(a);", "connect(a,);", "connect(,a);", "connect(a, b)", "connect(a, b, c);", "connect(a b);", "connect a, b;", "connect(a, b;", "connect(a, b) = c;",
		"connect((a), b);", "connect(a, (b));", "connect(a, 1);", "connect(1, a);", "connect(-a, b);", "connect(a, b + c);", "connect(der(a), b);", "connect({a}, b);", "connect(a, b[]);",
		"when", "when a", "when then a = b; end when;", "when a then", "when a then end when;", "when a a = b; end when;", "when a loop a = b; end when;", "when a then a = b;", "when a then a = b; end when",
		"when a then a = b; end;", "when a then a = b; end if;", "when a then a = b end when;", "when a then a = b; else a = b; end when;", "when a then else a = b; end when;", "when a then b; end when;",
		"when a then b = ; end when;", "when a then = b; end when;", "when a then b == c; end when;", "when a then b = c = d; end when;", "when a then b + c = d; end when;", "when a then (b) = c; end when;",
		"when a then 1 = b; end when;", "when a then -b = c; end when;", "when a then der(b) = c; end when;", "when a then pre(b) = c; end when;", "when a then {b} = c; end when;", "when a then b = c d; end when;",
		"when a then connect(b, c); end when;", "when a then for i in 1:2 loop b = c; end for; end when;", "when a then if b then c = d; end if; end when;", "when a then when b then c = d; end when; end when;",
		"when a then reinit; end when;", "when a then reinit(); end when;", "when a then reinit(b); end when;", "when a then reinit(b,); end when;", "when a then reinit(b, c) end when;", "when a then reinit(b, c, d); end when;",
		"when a then reinit(b c); end when;", "when a then reinit((b), c); end when;", "when a then reinit(1, c); end when;", "when a then reinit(b + c, d); end when;", "when a then reinit(der(b), c); end when;",
		"when a then reinit(b, c = d); end when;", `when a then reinit(b, "c"); end when;`, "when a then reinit b, c; end when;", "when a then initial equation end when;", "when a then b = c; initial equation end when;")
	malformed(t, "model A initial equation ", " end A;",
		"connect(a, b);", "when a then b = c; end when;", "for i in 1:2 loop connect(a, b); end for;", "for i in 1:2 loop when a then b = c; end when; end for;",
		"if a then connect(a, b); end if;", "if a then else connect(a, b); end if;", "if a then when a then b = c; end when; end if;", "if a then for i in 1:2 loop connect(a, b); end for; end if;")
}

func TestTextCanonical(t *testing.T) {
	for source, want := range map[string]string{
		"":                                  "",
		"model A end A; connector B end B;": "model A end A ; connector B end B ;",
		"model A Real x; extends B; Real y; extends C(x=1,redeclare D d,e(f=1.50,u=\"m\")); equation initial equation end A;":   `model A extends B ; extends C ( x = 1 , redeclare D d , e ( f = 1.5 , u = "m" ) ) ; Real x ; Real y ; end A ;`,
		"model A replaceable parameter Real x[2,n](start=1)=(a+(b)); flow Real y=2; end A;":                                     `model A replaceable parameter Real x [ 2 , n ] ( start = 1 ) = a + b ; flow Real y = 2 ; end A ;`,
		"model A equation (if a then b else c) = if a then b else c; end A;":                                                    "model A equation ( if a then b else c ) = if a then b else c ; end A ;",
		"model A equation (if a then b else c) or d = e; (a == b) = (a or b); end A;":                                           "model A equation ( if a then b else c ) or d = e ; a == b = a or b ; end A ;",
		"model A equation if a then else end if; if (a) then a=b; else end if; if a then else a=b; end if; end A;":              "model A equation if a then end if ; if a then a = b ; end if ; if a then else a = b ; end if ; end A ;",
		"model A equation for i in (1):n+1 loop connect(a[i],b.c); end for; initial equation for i in 1:2 loop end for; end A;": "model A equation for i in 1 : n + 1 loop connect ( a [ i ] , b . c ) ; end for ; initial equation for i in 1 : 2 loop end for ; end A ;",
		"model A equation when (a) then b=(c); reinit(b,(c)); end when; end A;":                                                 "model A equation when a then b = c ; reinit ( b , c ) ; end when ; end A ;",
		"model A initial equation initial() = a; end A;":                                                                        "model A initial equation initial ( ) = a ; end A ;",
	} {
		if got := write(t, parse(t, source)); got != want {
			t.Errorf("%s: %s, want %s", source, got, want)
		}
	}
}

func TestLine(t *testing.T) {
	for source, want := range map[string]string{
		"a=(b);":                                    "a = b ;",
		"(if a then b else c)=d;":                   "( if a then b else c ) = d ;",
		"connect(a,b.c[1]);":                        "connect ( a , b . c [ 1 ] ) ;",
		"for i in 1:2 loop a=b; end for;":           "for i in 1 : 2 loop a = b ; end for ;",
		"if a then b=c; else d=e; end if;":          "if a then b = c ; else d = e ; end if ;",
		"if a then else end if;":                    "if a then end if ;",
		"when a then reinit(b,c+d); e=f; end when;": "when a then reinit ( b , c + d ) ; e = f ; end when ;",
	} {
		s := parse(t, "model A equation "+source+" end A;")[0].Eqs[0]
		before := parse(t, "model A equation "+source+" end A;")[0].Eqs[0]
		if got, err := syntax.Line(s); got != want || err != api.OK {
			t.Errorf("%s: %s, %d, want %s", source, got, err, want)
		}
		if !reflect.DeepEqual(s, before) {
			t.Errorf("%s: the argument has changed", source)
		}
	}
}

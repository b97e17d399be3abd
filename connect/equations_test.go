package connect_test

import (
	"slices"
	"strings"
	"testing"

	"linkwork/api"
	"linkwork/connect"
)

func TestEquations(t *testing.T) {
	for _, x := range []struct{ set, fields, want string }{
		{"a.p b.p", "v i~", "c'a.p.i: (a.p.i+b.p.i) = #0; c'b.p.v: a.p.v = b.p.v"},
		{"a.p b.p", "i~ v", "c'a.p.i: (a.p.i+b.p.i) = #0; c'b.p.v: a.p.v = b.p.v"},
		{"a.p", "v i~", "c'a.p.i: a.p.i = #0"},
		{"^p", "v i~", ""},
		{"^p", "v i~ w j~", ""},
		{"a.p", "v", ""},
		{"a.p", "", ""},
		{"a b", "", ""},
		{"^a", "", ""},
		{"a b", "v", "c'b.v: a.v = b.v"},
		{"a b", "i~", "c'a.i: (a.i+b.i) = #0"},
		{"a.p ^p", "v i~", "c'a.p.i: (a.p.i+-p.i) = #0; c'p.v.o: a.p.v = p.v"},
		{"^p q.p", "v i~", "c'p.i.o: (-p.i+q.p.i) = #0; c'q.p.v: p.v = q.p.v"},
		{"^p ^q", "v i~", "c'p.i.o: (-p.i+-q.i) = #0; c'q.v.o: p.v = q.v"},
		{"p ^p", "v i~", "c'p.i: (p.i+-p.i) = #0; c'p.v.o: p.v = p.v"},
		{"a b c", "v i~", "c'a.i: ((a.i+b.i)+c.i) = #0; c'b.v: a.v = b.v; c'c.v: a.v = c.v"},
		{"a ^b c ^d", "i~ v", "c'a.i: (((a.i+-b.i)+c.i)+-d.i) = #0; c'b.v.o: a.v = b.v; c'c.v: a.v = c.v; c'd.v.o: a.v = d.v"},
		{"a b", "y x~ z u~", "c'a.u: (a.u+b.u) = #0; c'a.x: (a.x+b.x) = #0; c'b.y: a.y = b.y; c'b.z: a.z = b.z"},
		{"B a", "Z z", "c'a.Z: B.Z = a.Z; c'a.z: B.z = a.z"},
		{"a a.b", "x", "c'a.b.x: a.x = a.b.x"},
		{"p[1] p[2]", "T H~", "c'p[1].H: (p[1].H+p[2].H) = #0; c'p[2].T: p[1].T = p[2].T"},
	} {
		got, err := connect.Equations(ends(x.set), fields(x.fields))
		if text := strings.Join(eqTexts(got), "; "); text != x.want || err != api.OK {
			t.Errorf("Equations(%s; %s) = %s, %d, want %s", x.set, x.fields, text, err, x.want)
		}
	}
}

func TestEquationsErrors(t *testing.T) {
	long := func(count int) string { return strings.Repeat("x", count) }
	for _, x := range []struct {
		set, fields string
		err         api.Errno
	}{
		{"", "v", api.ErrForm},
		{"", "", api.ErrForm},
		{"b a", "v", api.ErrForm},
		{"b a", "", api.ErrForm},
		{"^a a", "v", api.ErrForm},
		{"a a", "v", api.ErrForm},
		{"^a ^a", "v", api.ErrForm},
		{"a b b", "v", api.ErrForm},
		{"a c b", "v", api.ErrForm},
		{"1", "v", api.ErrForm},
		{"a 'b", "", api.ErrForm},
		{"^", "v", api.ErrForm},
		{"a b", "v v", api.ErrForm},
		{"a b", "v w v~", api.ErrForm},
		{"a", "i~ i~", api.ErrForm},
		{"^a", "v v", api.ErrForm},
		{"a b", "v.w", api.ErrForm},
		{"a b", "v[1]", api.ErrForm},
		{"a b", "1", api.ErrForm},
		{"a b", "_v", api.ErrForm},
		{"a b", "~", api.ErrForm},
		{"a b", "v end", api.ErrForm},
		{"a b", "flow~", api.ErrForm},
		{"^a", "flow~", api.ErrForm},
		{"^a", "1", api.ErrForm},
		{"a b", "Real start", api.OK},
		{"a b", long(20), api.OK},
		{"a b", long(21), api.ErrForm},
		// Names, and variables, that are too long
		{"a " + long(76), "v", api.OK}, // c'x..x.v
		{"a " + long(77), "v", api.ErrForm},
		{"a ^" + long(74), "v", api.OK}, // c'x..x.v.o
		{"a ^" + long(75), "v", api.ErrForm},
		{long(76), "v~", api.OK},
		{long(77), "v~", api.ErrForm},
		{"^" + long(74) + " y", "v~", api.OK},
		{"^" + long(75) + " y", "v~", api.ErrForm},
		{"^" + long(75) + " y", "v", api.OK}, // the equation is that of y
		{long(78) + " y", "v", api.OK},
		{long(79) + " y", "v", api.ErrForm},
		{"a " + long(78), "v~", api.OK},
		{"a " + long(79), "v~", api.ErrForm},
		{"a ^" + long(78), "v~", api.OK},
		{"a ^" + long(79), "v~", api.ErrForm},
		{"a " + long(75) + " z", "v", api.OK},
		{"a " + long(75) + " z", "v ww", api.OK},
		{"a " + long(75) + " z", "v www", api.ErrForm},
		{long(80), "v", api.OK}, // there are no equations
		{long(80), "v~", api.ErrForm},
		{"^" + long(80), "v i~", api.OK},
		{"^" + long(81), "v i~", api.ErrForm},
		// the same Name twice
		{"^a a.x", "o x", api.OK},
		{"^a a.x", "o x~", api.ErrName},
		{"^a a.x a.y", "o y~", api.ErrName},
		{"A ^a a.x", "o x", api.ErrName},
		{"A ^a a.x", "o~ x", api.OK},
		{"A ^a a.x", "oo x", api.OK},
		{"A a a.x", "o x", api.OK},
		{"A ^a ^a.x", "o x", api.OK},
		{"A ^a a.x", "o x end", api.ErrForm},
		{"A ^a a.x " + long(77), "o x", api.ErrForm},
	} {
		got, err := connect.Equations(ends(x.set), fields(x.fields))
		if err != x.err || err != api.OK && len(got) > 0 {
			t.Errorf("Equations(%s; %s) = %v, %d, want %d", x.set, x.fields, eqTexts(got), err, x.err)
		}
	}
	if _, err := connect.Equations(ends("a"), []api.Field{{}}); err != api.ErrForm {
		t.Errorf("Equations with a field without Name: %d", err)
	}
}

// A set has no limit.
func TestLargeSet(t *testing.T) {
	const count = 100000
	set := numbered(count)
	slices.SortFunc(set, func(a, b api.End) int { return strings.Compare(a.Path, b.Path) })
	got, err := connect.Equations(set, fields("v i~"))
	if err != api.OK || len(got) != count || got[0].Name != "c'p0.i" {
		t.Fatalf("%d equations, %d", len(got), err)
	}
	e := got[0].Left
	for i := count - 1; i > 0; i-- {
		if e.Op != "add" || len(e.Kids) != 2 || exprText(e.Kids[1]) != set[i].Path+".i" {
			t.Fatalf("%s is not added", set[i].Path)
		}
		e = e.Kids[0]
	}
	if exprText(e) != "p0.i" {
		t.Errorf("the first one is %s", exprText(e))
	}
}

package connect_test

import (
	"strings"
	"testing"

	"linkwork/api"
	"linkwork/connect"
)

func TestGenerate(t *testing.T) {
	for _, x := range []struct{ ends, links, fields, want string }{
		{"", "", "v i~", ""},
		{"a.p b.p", "b.p=a.p", "v i~", "c'a.p.i: (a.p.i+b.p.i) = #0; c'b.p.v: a.p.v = b.p.v"},
		{"a.p", "", "v i~", "c'a.p.i: a.p.i = #0"},
		{"^p", "", "v i~", ""},
		{"^p", "^p=^p", "v i~", ""},
		{"^p p", "", "v i~", "c'p.i: p.i = #0"},
		{"^p p", "p=^p", "v i~", "c'p.i: (p.i+-p.i) = #0; c'p.v.o: p.v = p.v"},
		{"b a", "", "i~", "c'a.i: a.i = #0; c'b.i: b.i = #0"},
		{"b a", "", "v", ""},
		{"b a", "b=a", "", ""},
		{"z b ^y a", "z=^y a=b", "v i~", "c'a.i: (a.i+b.i) = #0; c'b.v: a.v = b.v; c'y.i.o: (-y.i+z.i) = #0; c'z.v: y.v = z.v"},
		{"z b ^y a", "z=b a=b", "v i~", "c'a.i: ((a.i+b.i)+z.i) = #0; c'b.v: a.v = b.v; c'z.v: a.v = z.v"},
		{"p.n p.p q.n q.p ^n ^p", "^p=p.p p.n=q.p q.n=^n", "v i~", "c'n.i.o: (-n.i+q.n.i) = #0; c'p.i.o: (-p.i+p.p.i) = #0; c'p.n.i: (p.n.i+q.p.i) = #0; c'p.p.v: p.v = p.p.v; c'q.n.v: n.v = q.n.v; c'q.p.v: p.n.v = q.p.v"},
	} {
		list := ends(x.ends)
		got, err := connect.Generate(list, links(x.links), fieldsAt(list, x.fields))
		if text := strings.Join(eqTexts(got), "; "); text != x.want || err != api.OK {
			t.Errorf("Generate(%s; %s; %s) = %s, %d, want %s", x.ends, x.links, x.fields, text, err, x.want)
		}
	}
}

// fieldsOf returns the fields of Paths that a text lists (`a: v i~; b: v`).
func fieldsOf(text string) map[string][]api.Field {
	all := make(map[string][]api.Field)
	for item := range strings.SplitSeq(text, ";") {
		if path, list, ok := strings.Cut(item, ":"); ok {
			all[strings.TrimSpace(path)] = fields(list)
		}
	}
	return all
}

func TestGenerateFields(t *testing.T) {
	long := func(count int) string { return strings.Repeat("x", count) }
	for _, x := range []struct {
		ends, links, fields string
		err                 api.Errno
	}{
		{"a b", "a=b", "a: v i~; b: v i~", api.OK},
		{"a b", "a=b", "a: v i~; b: i~ v", api.OK},
		{"a b", "a=b", "a:; b:", api.OK},
		{"a b", "", "a: v; b: w", api.OK},
		{"a b c ^d", "c=a b=^d", "a: v; b: w i~; c: v; d: i~ w", api.OK},
		{"a", "", "a: v; b: 1; 2: v v", api.OK}, // of what is no end nothing is asked
		// no fields
		{"a b", "a=b", "a: v", api.ErrName},
		{"a b", "", "", api.ErrName},
		{"a ^b", "", "a: v; c: v; ^b: v", api.ErrName},
		{"^p", "", "q: v", api.ErrName},
		// other fields
		{"a b", "a=b", "a: v; b: w", api.ErrType},
		{"a b", "a=b", "a: v; b: v~", api.ErrType},
		{"a b", "a=b", "a: v i~; b: v~ i", api.ErrType},
		{"a b", "a=b", "a: v i~; b: v i", api.ErrType},
		{"a b", "a=b", "a: v i~; b: v", api.ErrType},
		{"a b", "a=b", "a: v; b: i~ v", api.ErrType},
		{"a b", "a=b", "a:; b: v", api.ErrType},
		{"a b c", "a=b b=c", "a: v; b: v; c: w", api.ErrType},
		{"a b c", "a=c", "a: v; b: w; c: w", api.ErrType},
		{"a b c ^d", "b=^d", "a: v; b: v; c: v; d: V", api.ErrType},
		// malformed ones
		{"a b", "a=b", "a: v v; b: v v", api.ErrForm},
		{"a b", "", "a: v; b: i~ i", api.ErrForm},
		{"a b", "", "a: v; b: 1", api.ErrForm},
		{"a ^b", "", "a: v; b: end", api.ErrForm},
		{"a b", "a=b", "a: v.w; b: v.w", api.ErrForm},
		{"a " + long(77), "a=" + long(77), "a: v; " + long(77) + ": v", api.ErrForm},
		{"a " + long(77), "", "a: v; " + long(77) + ": v", api.OK},
		{"a " + long(77), "", "a: v; " + long(77) + ": v~", api.ErrForm},
		{"^" + long(80), "", long(80) + ": v~", api.OK},
		// the same Name twice, in one set or in two
		{"^a a.x", "^a=a.x", "a: o x~; a.x: o x~", api.ErrName},
		{"^a a.x b", "^a=b", "a: x~; a.x: o~; b: x~", api.ErrName},
		{"A ^a a.x b", "^a=A b=a.x", "a: x~; A: x~; a.x: o~; b: o~", api.OK},
		{"A ^a B a.x", "^a=A a.x=B", "a: x; A: x; a.x: o; B: o", api.ErrName},
		{"A ^a a.x", "^a=A", "a: x; A: x; a.x: o~", api.ErrName},
		{"a a.x", "", "a: x~; a.x: o~", api.OK},
		// the order of errors
		{"a b c", "a=b", "a: v; b: w", api.ErrName},
		{"a b c", "a=b", "a: 1; b: 2; c: v", api.ErrType},
		{"a b c d", "c=d", "a: 1; b: v v; c: v; d: w", api.ErrType},
		{"a b", "a=b", "a: v v; b: v w", api.ErrType},
		{"^a a.x b z", "^a=b", "a: x~; a.x: o~; b: x~; z: 1", api.ErrForm},
		{"^a a.x z", "^a=a.x", "a: o x~; a.x: o x~; z: v v", api.ErrForm},
		{"^a a.x z y", "^a=a.x z=y", "a: o x~; a.x: o x~; z: v; y: w", api.ErrType},
	} {
		got, err := connect.Generate(ends(x.ends), links(x.links), fieldsOf(x.fields))
		if err != x.err || err != api.OK && len(got) > 0 {
			t.Errorf("Generate(%s; %s; %s) = %v, %d, want %d", x.ends, x.links, x.fields, eqTexts(got), err, x.err)
		}
	}
	if got, err := connect.Generate(ends("a b"), links("a=b"), map[string][]api.Field{"a": nil, "b": {}}); len(got) > 0 || err != api.OK {
		t.Errorf("Generate without fields = %v, %d", got, err)
	}
	if got, err := connect.Generate(nil, nil, nil); len(got) > 0 || err != api.OK {
		t.Errorf("Generate of nothing = %v, %d", got, err)
	}
}

// As many ends as there may be, in one set and each by itself.
func TestGenerateMost(t *testing.T) {
	list := numbered(400)
	var connections [][2]api.End
	for i := range 399 {
		connections = append(connections, [2]api.End{list[i], list[i+1]})
	}
	all := fieldsAt(list, "v i~")
	got, err := connect.Generate(list, connections, all)
	if len(got) != 400 || err != api.OK || got[0].Name != "c'p0.i" || strings.Count(exprText(got[0].Left), "+") != 399 {
		t.Errorf("%d equations of one set, %d", len(got), err)
	}
	got, err = connect.Generate(list, nil, all)
	if len(got) != 400 || err != api.OK {
		t.Errorf("%d equations of 400 sets, %d", len(got), err)
	}
	for _, q := range got {
		if exprText(q.Left) != strings.TrimPrefix(q.Name, "c'") {
			t.Errorf("%s: %s", q.Name, exprText(q.Left))
		}
	}
}

package names_test

import (
	"strconv"
	"strings"
	"testing"

	"linkwork/api"
	"linkwork/names"
)

func TestMerge(t *testing.T) {
	for _, x := range [][3]string{
		{"", "", ""},
		{"a = 1", "", "a=1"},
		{"", "a = 1", "a=1"},
		{"a = 1", "a = 2", "a=1"},
		{"a = 1", "b = 2", "a=1, b=2"},
		{"b = 1", "a = 2", "a=2, b=1"},
		{"redeclare C a", "redeclare D a", "redeclare C a"},
		{`a = "m"`, "a = 2", `a="m"`},
		// for one name the value, then the modifications, then the class
		{"redeclare C a, a(x = 1), a = 1", "", "a=1, a(x=1), redeclare C a"},
		{"redeclare C a", "a(x = 1), a = 1", "a=1, a(x=1), redeclare C a"},
		{"a(x = 1)", "redeclare C a, a = 1", "a=1, a(x=1), redeclare C a"},
		{"a = 1", "redeclare C a, a(x = 1)", "a=1, a(x=1), redeclare C a"},
		{"b = 1, redeclare C a", "redeclare D b, a(x = 1), a = 3", "a=3, a(x=1), redeclare C a, b=1, redeclare D b"},
		// names by their bytes
		{"b = 1, B = 2, a1 = 3", "a_ = 4, a = 5, ab = 6", "B=2, a=5, a1=3, a_=4, ab=6, b=1"},
		{"z = 1, y(q = 1, p = 1), x = 1", "", "x=1, y(p=1, q=1), z=1"},
		// within others
		{"a(x = 1)", "a(x = 2)", "a(x=1)"},
		{"a(y = 1)", "a(x = 2)", "a(x=2, y=1)"},
		{"a(x = 1)", "a(x(z = 2))", "a(x=1, x(z=2))"},
		{"a(x(q = 1, redeclare C z), w = 1)", "a(x(z = 2, redeclare D z, q = 2), v = 3)", "a(v=3, w=1, x(q=1, z=2, redeclare C z))"},
		{"a(b(c(d(e(f = 1)))))", "a(b(c(d(e(g = 2), e = 3))))", "a(b(c(d(e=3, e(f=1, g=2)))))"},
		{"b(y = 1, x = 1)", "a(y = 2, x = 2), b(y = 3)", "a(x=2, y=2), b(x=1, y=1)"},
	} {
		outer, inner := mods(t, x[0]), mods(t, x[1])
		got, err := names.Merge(outer, inner)
		if written(got) != x[2] || err != api.OK {
			t.Errorf("Merge(%s; %s) = %s, %d, want %s", x[0], x[1], written(got), err, x[2])
		}
		again, _ := names.Merge(outer, inner)
		if !isNew([][]api.Mod{got, again}, outer, inner) {
			t.Errorf("Merge(%s; %s) shares memory", x[0], x[1])
		}
		if !same(outer, mods(t, x[0])) || !same(inner, mods(t, x[1])) {
			t.Errorf("Merge(%s; %s) changed them: %s; %s", x[0], x[1], written(outer), written(inner))
		}
	}
	// one list as both
	list := mods(t, "b(y = 1, x = 1), a = 1")
	if got, err := names.Merge(list, list); written(got) != "a=1, b(x=1, y=1)" || err != api.OK || !isNew(got, list) {
		t.Errorf("Merge of a list with itself: %s, %d", written(got), err)
	}
}

func TestMergeLarge(t *testing.T) {
	numbered := func(prefix string, n int) []api.Mod {
		var list []api.Mod
		for i := range n {
			list = append(list, api.Mod{Name: prefix + strconv.Itoa(i), Value: []api.Tree{{Op: "num", Text: "1"}}})
		}
		return list
	}
	within := func(list []api.Mod) []api.Mod { return []api.Mod{{Name: "a", Mods: list}} }
	got, err := names.Merge(numbered("a", 40), numbered("b", 40))
	if len(got) != 80 || err != api.OK {
		t.Errorf("Merge: %d, %d", len(got), err)
	}
	got, err = names.Merge(within(numbered("a", 40)), within(numbered("b", 40)))
	if len(got) != 1 || len(got[0].Mods) != 80 || err != api.OK {
		t.Errorf("Merge: %d, %d", len(got), err)
	}
	if got, err := names.Merge(got, nil); len(got) > 0 || err != api.ErrSize {
		t.Errorf("Merge: %d, %d", len(got), err)
	}
	if got, err := names.Merge(nil, numbered("a", 41)); len(got) > 0 || err != api.ErrSize {
		t.Errorf("Merge: %d, %d", len(got), err)
	}
}

func TestMergeErrors(t *testing.T) {
	one := []api.Tree{{Op: "num", Text: "1"}}
	large := one[0]
	for range api.MaxDepth {
		large = api.Tree{Op: "neg", Kids: []api.Tree{large}}
	}
	deep := []api.Mod{{Name: "a", Value: one}}
	for range 6 {
		deep = []api.Mod{{Name: "a", Mods: deep}}
	}
	endless := []api.Mod{{Name: "a"}}
	endless[0].Mods = endless
	twice := []api.Mod{{Name: "a", Value: one}, {Name: "a", Value: one}}
	bad := []api.Mod{{Name: "b", Value: one}, {Name: "a"}}
	tooLarge := []api.Mod{{Name: "a", Value: []api.Tree{large}}}
	for what, x := range map[string]struct {
		list []api.Mod
		err  api.Errno
	}{
		"nothing said":               {bad, api.ErrForm},
		"no name":                    {[]api.Mod{{Value: one}}, api.ErrForm},
		"a name that is no word":     {[]api.Mod{{Name: "1", Value: one}}, api.ErrForm},
		"a keyword":                  {[]api.Mod{{Name: "model", Value: one}}, api.ErrForm},
		"a path":                     {[]api.Mod{{Name: "a.b", Value: one}}, api.ErrForm},
		"two values in one":          {[]api.Mod{{Name: "a", Value: append(one, one...)}}, api.ErrForm},
		"a value, and modifications": {[]api.Mod{{Name: "a", Value: one, Mods: []api.Mod{{Name: "a", Value: one}}}}, api.ErrForm},
		"a value, and a class":       {[]api.Mod{{Name: "a", Value: one, Class: "C"}}, api.ErrForm},
		"modifications, and a class": {[]api.Mod{{Name: "a", Class: "C", Mods: []api.Mod{{Name: "a", Value: one}}}}, api.ErrForm},
		"a class that is no word":    {[]api.Mod{{Name: "a", Class: "C.D"}}, api.ErrForm},
		"a value that is none":       {[]api.Mod{{Name: "a", Value: []api.Tree{{Op: "num", Text: "x"}}}}, api.ErrForm},
		"a part as a value":          {[]api.Mod{{Name: "a", Value: []api.Tree{{Op: "part", Text: "x"}}}}, api.ErrForm},
		"malformed within":           {[]api.Mod{{Name: "a", Mods: bad}}, api.ErrForm},
		"malformed, and twice":       {append(twice, bad...), api.ErrForm},
		"nested too deep":            {deep, api.ErrSize},
		"endless":                    {endless, api.ErrSize},
		"too large a value":          {tooLarge, api.ErrSize},
		"too large, then malformed":  {append(clone(tooLarge), bad...), api.ErrForm},
		"malformed, then too large":  {append(clone(bad), tooLarge...), api.ErrForm},
		"too large, and twice":       {append(clone(twice), tooLarge...), api.ErrSize},
		"two values":                 {twice, api.ErrName},
		"two lists":                  {mods(t, "a(x = 1), b = 1, a(y = 1)"), api.ErrName},
		"two classes":                {mods(t, "redeclare C a, redeclare C a"), api.ErrName},
		"two values within":          {mods(t, "b = 1, a(b = 1, c(d = 1, e = 1, d = 1))"), api.ErrName},
		"two strings":                {mods(t, `a = "x", a = "x"`), api.ErrName},
		"as deep as allowed":         {deep[0].Mods, api.OK},
		"a built-in class":           {mods(t, "redeclare Real a"), api.OK},
		"attributes":                 {mods(t, `x(start = "m", unit = 1)`), api.OK},
	} {
		fine := mods(t, "c = 1")
		for _, lists := range [][2][]api.Mod{{x.list, nil}, {nil, x.list}, {x.list, fine}, {fine, x.list}, {x.list, x.list}} {
			got, err := names.Merge(lists[0], lists[1])
			if err != x.err || err != api.OK && len(got) > 0 {
				t.Errorf("%s: Merge = %v, %d, want %d", what, got, err, x.err)
			}
		}
	}
	// malformed ahead of too large, and that ahead of twice, in whichever list
	for _, x := range []struct {
		one, other []api.Mod
		err        api.Errno
	}{{bad, tooLarge, api.ErrForm}, {bad, twice, api.ErrForm}, {tooLarge, twice, api.ErrSize}} {
		_, first := names.Merge(x.one, x.other)
		_, second := names.Merge(x.other, x.one)
		if first != x.err || second != x.err {
			t.Errorf("Merge(%s; %s): %d, %d, want %d", written(x.one[:1]), written(x.other[:1]), first, second, x.err)
		}
	}
}

func TestInherits(t *testing.T) {
	lib := parse(t, circuit+"model S extends R(r = 2); end S; model Both extends Z; extends S; end Both; model Z end Z; connector P extends Pin; end P;")
	all := []string{"Both", "P", "Pin", "R", "S", "TwoPin", "Z"}
	const want = "Both>R Both>S Both>TwoPin Both>Z P>Pin R>TwoPin S>R S>TwoPin"
	var got []string
	for _, a := range all {
		for _, b := range all {
			ok, err := names.Inherits(lib, a, b)
			if err != api.OK || a == b && !ok {
				t.Errorf("Inherits(%s, %s) = %v, %d", a, b, ok, err)
			}
			if ok && a != b {
				got = append(got, a+">"+b)
			}
		}
	}
	if strings.Join(got, " ") != want {
		t.Errorf("Inherits: %s, want %s", got, want)
	}
	for _, x := range [][2]string{{"R", "X"}, {"X", "R"}, {"X", "X"}, {"Real", "Real"}, {"R", "Real"}, {"", ""}, {"r", "R"}} {
		if ok, err := names.Inherits(lib, x[0], x[1]); ok || err != api.ErrName {
			t.Errorf("Inherits(%s, %s) = %v, %d", x[0], x[1], ok, err)
		}
	}
	unsound := append(lib, parse(t, "model A A a; end A;")...)
	if ok, err := names.Inherits(unsound, "X", "R"); ok || err != api.ErrCycle {
		t.Errorf("Inherits = %v, %d", ok, err)
	}
}

func TestUses(t *testing.T) {
	lib := parse(t, circuit+`
		model A B b(redeclare D c, c(e(redeclare G f))); Real x; end A;
		model B replaceable C c; end B;
		model C end C;
		model D extends C; E e; end D;
		model E replaceable F f; end E;
		model F end F;
		model G extends F; parameter Integer n; end G;
		model H extends B(redeclare D c); end H;
		model I extends H; end I;
		model J K k; end J;
		model K extends E(redeclare G f); end K;
		model L extends M(e(redeclare G f)); end L;
		model M E e; end M;
		model N extends I; extends J; end N;`)
	for name, want := range map[string]string{
		"Pin": "Pin", "TwoPin": "Pin TwoPin", "R": "Pin R TwoPin",
		"A": "A B C D E F G", "B": "B C", "C": "C", "D": "C D E F", "E": "E F", "F": "F", "G": "F G",
		"H": "B C D E F H", "I": "B C D E F H I", "J": "E F G J K", "K": "E F G K", "L": "E F G L M", "M": "E F M",
		"N": "B C D E F G H I J K N",
	} {
		got, err := names.Uses(lib, name)
		if strings.Join(got, " ") != want || err != api.OK {
			t.Errorf("Uses of %s: %s, %d, want %s", name, got, err, want)
		}
	}
	for _, name := range []string{"", "X", "Real", "Integer", "Boolean", "a"} {
		if got, err := names.Uses(lib, name); len(got) > 0 || err != api.ErrName {
			t.Errorf("Uses of %q: %s, %d", name, got, err)
		}
	}
	for _, name := range []string{"A", "X", "Z"} {
		if got, err := names.Uses(append(lib, parse(t, "model Z Z z; end Z;")...), name); len(got) > 0 || err != api.ErrCycle {
			t.Errorf("Uses of %q: %s, %d", name, got, err)
		}
	}
}

package instance_test

import (
	"slices"
	"strings"
	"testing"

	"linkwork/api"
	"linkwork/instance"
	"linkwork/names"
	"linkwork/shape"
	"linkwork/syntax"
	"linkwork/system"
)

// models calls a function for models of random libraries, with modifications that may mostly be put over them.
func models(t *testing.T, seed source, rounds int, look func(s *source, lib []api.Class, name string, list []api.Mod)) {
	t.Helper()
	for round := range rounds {
		a, lib := seed.library(t, []int{0, 0, 0, 60}[round%4])
		for _, d := range a.drafts[1:] {
			var list []api.Mod
			if seed.below(2) == 0 {
				text, _ := a.modsFor(&d, d.members, 2)
				if parsed, err := syntax.Parse("model A extends B" + text + "; end A;"); err == api.OK {
					list = parsed[0].Extends[0].Mods
				}
			}
			look(&seed, lib, d.name, list)
		}
	}
}

// P9.1, and that what Build returns is well made and shares nothing, and what it is given is not changed
func TestLawPaths(t *testing.T) {
	t.Parallel()
	inner := 0
	models(t, 911, 300, func(s *source, lib []api.Class, name string, list []api.Mod) {
		before, beforeMods := clone(lib), clone(list)
		got, err := instance.Build(lib, name, list)
		if !same(lib, before) || !same(list, beforeMods) {
			t.Fatalf("Build changes %s", libraryText(before))
		}
		again, e := instance.Build(lib, name, list)
		if e != err || !same(got, again) || !isNew([][]api.Inst{got, again}) || err != api.OK && got != nil {
			t.Fatalf("%s: %d, %d", libraryText(lib), err, e)
		}
		if err != api.OK {
			return
		}
		paths := map[string]bool{}
		for _, x := range got {
			paths[x.Path] = true
		}
		for _, x := range got {
			if i := strings.LastIndex(x.Path, "."); i >= 0 {
				inner++
				if !paths[x.Path[:i]] {
					t.Fatalf("%s has %s alone", libraryText(lib), x.Path)
				}
			}
		}
		if _, err := instance.Env(got); err != api.OK {
			t.Fatalf("Build(%s, %s) = %q, which is not well made", libraryText(lib), name, lines(got))
		}
	})
	if inner < 3000 {
		t.Errorf("%d instances in others", inner)
	}
}

// P9.2
func TestLawOrder(t *testing.T) {
	t.Parallel()
	seen := map[bool]int{}
	models(t, 912, 300, func(s *source, lib []api.Class, name string, list []api.Mod) {
		got, err := instance.Build(lib, name, list)
		other := shuffled(s, clone(lib))
		for i := range other {
			other[i].Comps = shuffled(s, other[i].Comps)
			other[i].Extends = shuffled(s, other[i].Extends)
			for j := range other[i].Comps {
				other[i].Comps[j].Mods = shuffled(s, other[i].Comps[j].Mods)
			}
		}
		again, e := instance.Build(other, name, shuffled(s, list))
		if e != err || !same(got, again) {
			t.Fatalf("Build(%s, %s) = %q, %d, and in another order %q, %d", libraryText(lib), name, lines(got), err, lines(again), e)
		}
		seen[err == api.OK]++
	})
	if seen[true] < 400 || seen[false] < 150 {
		t.Error(seen)
	}
}

// P9.3
func TestLawModified(t *testing.T) {
	t.Parallel()
	seen := map[bool]int{}
	models(t, 913, 300, func(s *source, lib []api.Class, name string, list []api.Mod) {
		got, err := instance.Build(lib, name, list)
		extended := append(slices.Clone(lib), api.Class{Kind: "model", Name: "Extended", Extends: []api.Extend{{Class: name, Mods: list}}})
		again, e := instance.Build(extended, "Extended", nil)
		if e != err || !same(got, again) {
			t.Fatalf("Build(%s, %s, %+v) = %q, %d, of a class that extends it %q, %d", libraryText(lib), name, list, lines(got), err, lines(again), e)
		}
		if len(list) > 0 {
			seen[err == api.OK]++
		}
	})
	if seen[true] < 100 || seen[false] < 30 {
		t.Error(seen)
	}
}

// flatExpr returns an element as an expression of a system.
func flatExpr(x api.Tree) api.Expr {
	if x.Op == "ref" {
		text, _ := syntax.Show(x)
		return api.Expr{Op: "var", Text: strings.ReplaceAll(text, " ", "")}
	}
	e := api.Expr{Op: x.Op, Text: x.Text}
	for _, kid := range x.Kids {
		e.Kids = append(e.Kids, flatExpr(kid))
	}
	return e
}

// P9.4
func TestLawParameters(t *testing.T) {
	t.Parallel()
	values := 0
	models(t, 914, 500, func(s *source, lib []api.Class, name string, _ []api.Mod) {
		got, err := instance.Build(lib, name, nil)
		if err != api.OK {
			return
		}
		scope, err := instance.Scope(got, "")
		if err != api.OK {
			return
		}
		var sys api.System
		for _, x := range got {
			if x.Kind == api.Param {
				sys.Vars = append(sys.Vars, api.Var{Name: x.Path, Kind: x.Kind, Type: x.Type, Value: x.Value})
			}
		}
		env, err := instance.Env(got)
		if err != api.OK || len(sys.Vars) > api.MaxVars {
			return
		}
		full, _ := names.Full(lib, name)
		for _, c := range full.Comps {
			if c.Prefix != "parameter" || len(c.Value) == 0 {
				continue
			}
			d, err := shape.Shape(scope, c.Value[0])
			for _, x := range got {
				word, list, isIndexed := strings.Cut(x.Path, "[")
				if word != c.Name || strings.Contains(x.Path, ".") || err != api.OK {
					continue // of places without instances the list shows no dimensions
				}
				var index []int
				if isIndexed && len(d) > 0 {
					index = indexOf(list)
				}
				element, err := shape.Element(scope, c.Value[0], index)
				if err == api.ErrSize {
					continue
				}
				if err != api.OK {
					t.Fatalf("%s in %s: %d", x.Path, libraryText(lib), err)
				}
				if value, err := system.Eval(sys, flatExpr(element), env); value != x.Value || err != api.OK {
					t.Fatalf("%s in %s: %s, but it is %s, %d", x.Path, libraryText(lib), x.Value, value, err)
				}
				values++
			}
		}
	})
	if values < 600 {
		t.Errorf("%d values", values)
	}
}

// indexOf returns the numbers of an index that ends with `]`.
func indexOf(text string) []int {
	var index []int
	for _, number := range strings.Split(strings.TrimSuffix(text, "]"), ",") {
		n := 0
		for _, digit := range number {
			n = n*10 + int(digit-'0')
		}
		index = append(index, n)
	}
	return index
}

// P9.5
func TestLawInherited(t *testing.T) {
	t.Parallel()
	put, unsound := 0, 0
	models(t, 915, 300, func(s *source, lib []api.Class, name string, list []api.Mod) {
		got, err := instance.Build(lib, name, list)
		for i, c := range lib {
			full, _ := names.Full(lib, c.Name)
			other := slices.Clone(lib)
			other[i] = full
			if _, e := names.Check(other); e != api.OK {
				unsound++
				continue
			}
			again, e := instance.Build(other, name, list)
			if e != err || !same(got, again) {
				if len(c.Extends) > 0 && e == api.ErrType && err != e {
					unsound++ // a redeclaration of the modifications names what inherits no more
					continue
				}
				t.Fatalf("Build(%s, %s) = %q, %d, with the full class of %s %q, %d", libraryText(lib), name, lines(got), err, c.Name, lines(again), e)
			}
			if len(c.Extends) > 0 {
				put++
			}
		}
	})
	if put < 500 || unsound > put/3 {
		t.Errorf("%d are sound, %d are not", put, unsound)
	}
}

// around returns modifications that put a value on a path of words.
func around(words []string, value api.Tree) []api.Mod {
	if len(words) == 1 {
		return []api.Mod{{Name: words[0], Value: []api.Tree{value}}}
	}
	return []api.Mod{{Name: words[0], Mods: around(words[1:], value)}}
}

// withoutIndices returns the words of a Path.
func withoutIndices(path string) []string {
	var words []string
	for _, part := range strings.Split(path, ".") {
		word, _, _ := strings.Cut(part, "[")
		words = append(words, word)
	}
	return words
}

// P9.6
func TestLawOutermost(t *testing.T) {
	t.Parallel()
	deep := 0
	models(t, 916, 300, func(s *source, lib []api.Class, name string, list []api.Mod) {
		got, err := instance.Build(lib, name, list)
		if err != api.OK {
			return
		}
		extended := append(slices.Clone(lib), api.Class{Kind: "model", Name: "Extended", Extends: []api.Extend{{Class: name, Mods: list}}})
		for _, x := range got {
			if x.Kind != api.Param || x.Class != "Real" || s.below(2) > 0 {
				continue
			}
			words := withoutIndices(x.Path)
			outer := around(words, api.Tree{Op: "num", Text: "123457"})
			again, e := instance.Build(extended, "Extended", outer)
			if e == api.ErrType || e == api.ErrSize || e == api.ErrZero || e == api.ErrArg {
				continue // another class is needed for it; or others cannot have this value
			}
			for i, y := range again {
				isIt := slices.Equal(withoutIndices(y.Path), words)
				if isIt && y.Value != "123457" || e != api.OK || len(words) == 1 && len(again) == len(got) && !isIt && y.Path != got[i].Path {
					t.Fatalf("Build(%s, %s, %+v) with %v: %q, %d", libraryText(lib), name, list, words, lines(again), e)
				}
			}
			if len(words) > 1 {
				deep++
			}
		}
	})
	if deep < 100 {
		t.Errorf("%d values of components", deep)
	}
}

// P9.7
func TestLawCounted(t *testing.T) {
	t.Parallel()
	counted := 0
	models(t, 917, 300, func(s *source, lib []api.Class, name string, list []api.Mod) {
		got, err := instance.Build(lib, name, list)
		if err != api.OK {
			return
		}
		scope, err := instance.Scope(got, "")
		if err != api.OK {
			return
		}
		counts := map[string]int{}
		for _, x := range got {
			counts[strings.Join(withoutIndices(x.Path), ".")]++
		}
		if len(counts) != len(scope.Paths) {
			t.Fatalf("%s: %d places, %d paths", libraryText(lib), len(counts), len(scope.Paths))
		}
		for _, p := range scope.Paths {
			product := 1
			for _, dims := range p.Dims {
				for _, n := range dims {
					product *= n
				}
			}
			if counts[p.Name] != product {
				t.Fatalf("%s: %d instances of %s, want %d", libraryText(lib), counts[p.Name], p.Name, product)
			}
			if product > 1 {
				counted++
			}
		}
	})
	if counted < 1000 {
		t.Errorf("%d places of several instances", counted)
	}
	for _, c := range []struct {
		text  string
		count int
	}{{"Real x[3, 4];", 12}, {"Real x[0];", 0}, {"Real x[5, 0];", 0}, {"Real x[1];", 1}, {"Real x[12, 12];", 144}} {
		if got, err := built(t, c.text, ""); len(got) != c.count || err != api.OK {
			t.Errorf("%s: %d instances, %d", c.text, len(got), err)
		}
	}
}

// Scopes are those that expressions have.
func TestLawScope(t *testing.T) {
	t.Parallel()
	inner := 0
	models(t, 918, 300, func(s *source, lib []api.Class, name string, list []api.Mod) {
		got, err := instance.Build(lib, name, list)
		if err != api.OK {
			return
		}
		for _, x := range got {
			if isBuiltIn(x.Class) {
				continue
			}
			part, err := instance.Scope(got, x.Path)
			if err != api.OK {
				continue
			}
			// what is in a part is a list by itself, whose root it is
			var inside []api.Inst
			for _, y := range got {
				if rest, ok := strings.CutPrefix(y.Path, x.Path+"."); ok {
					y.Path = rest
					inside = append(inside, y)
				}
			}
			alone, err := instance.Scope(inside, "")
			if err != api.OK || !same(part, alone) {
				t.Fatalf("the scope of %s in %s: %s, alone %s, %d", x.Path, libraryText(lib), scopeText(part), scopeText(alone), err)
			}
			inner += len(part.Paths)
		}
	})
	if inner < 1000 {
		t.Errorf("%d paths in parts", inner)
	}
}

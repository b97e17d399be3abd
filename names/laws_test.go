package names_test

import (
	"slices"
	"testing"

	"linkwork/api"
	"linkwork/names"
)

// P7.1
func TestLawPutIn(t *testing.T) {
	s := source(711)
	sound, unsound := 0, 0
	for range 600 {
		lib := s.library(t)
		for i, c := range lib {
			if len(c.Extends) == 0 {
				continue
			}
			full := fullOf(t, lib, c.Name)
			put := slices.Clone(lib)
			put[i].Extends = nil
			put[i].Comps, put[i].Eqs, put[i].Inits = full.Comps, full.Eqs, full.Inits
			if _, err := names.Check(put); err != api.OK {
				if err != api.ErrType {
					t.Fatalf("%s with the full class of %s: %d", libraryText(lib), c.Name, err)
				}
				unsound++ // a redeclaration names what inherits no more
				continue
			}
			sound++
			for _, other := range lib {
				if got, want := fullOf(t, put, other.Name), fullOf(t, lib, other.Name); !same(got, want) {
					t.Fatalf("Full of %s: %v, want %v, with %s put in %s", other.Name, got, want, c.Name, libraryText(lib))
				}
			}
		}
	}
	if sound < 400 || unsound > sound/4 {
		t.Errorf("%d are sound, %d are not", sound, unsound)
	}
}

// P7.2
func TestLawOrder(t *testing.T) {
	s := source(712)
	for range 600 {
		lib := s.library(t)
		other := shuffled(&s, lib)
		if name, err := names.Check(other); name != "" || err != api.OK {
			t.Fatalf("Check(%s) = %q, %d", libraryText(other), name, err)
		}
		for _, c := range lib {
			full, again := fullOf(t, lib, c.Name), fullOf(t, other, c.Name)
			uses, _ := names.Uses(lib, c.Name)
			usesAgain, _ := names.Uses(other, c.Name)
			if !same(full, again) || !same(uses, usesAgain) {
				t.Fatalf("%s: %v and %v, %v and %v", libraryText(lib), full, again, uses, usesAgain)
			}
		}
	}
	for range 2000 {
		lib := s.broken(t)
		name, err := names.Check(lib)
		other := shuffled(&s, lib)
		if got, e := names.Check(other); got != name || e != err {
			t.Fatalf("Check(%s) = %q, %d, and in another order %q, %d", libraryText(lib), name, err, got, e)
		}
		if _, e := names.Full(other, lib[0].Name); e != err {
			t.Fatalf("Full: %d, Check: %d", e, err)
		}
	}
}

// P7.3, and that all that Uses returns is needed
func TestLawNeeded(t *testing.T) {
	s := source(713)
	left := 0
	for range 600 {
		lib := s.library(t)
		for _, c := range lib {
			uses, err := names.Uses(lib, c.Name)
			if err != api.OK || !slices.IsSorted(uses) || !slices.Contains(uses, c.Name) || len(slices.Compact(slices.Clone(uses))) < len(uses) {
				t.Fatalf("Uses(%s, %s): %v, %d", libraryText(lib), c.Name, uses, err)
			}
			needed := slices.DeleteFunc(slices.Clone(lib), func(x api.Class) bool { return !slices.Contains(uses, x.Name) })
			left += len(lib) - len(needed)
			if got, want := fullOf(t, needed, c.Name), fullOf(t, lib, c.Name); !same(got, want) {
				t.Fatalf("Full(%s, %s): %v, want %v", libraryText(needed), c.Name, got, want)
			}
			for _, name := range uses {
				fewer := slices.DeleteFunc(slices.Clone(needed), func(x api.Class) bool { return x.Name == name })
				if _, err := names.Full(fewer, c.Name); err == api.OK {
					t.Fatalf("Uses(%s, %s): %v, but it does not need %s", libraryText(lib), c.Name, uses, name)
				}
			}
		}
	}
	if left < 1200 {
		t.Errorf("%d classes are not needed", left)
	}
}

// list returns modifications in some order, of which no two say the same.
func (s *source) list(depth int) []api.Mod {
	var list []api.Mod
	for _, name := range []string{"a", "b", "c", "B", "ab"} {
		if s.below(3) == 0 {
			list = append(list, api.Mod{Name: name, Value: s.number()})
		}
		if s.below(3) == 0 && depth > 0 {
			if within := s.list(depth - 1); len(within) > 0 {
				list = append(list, api.Mod{Name: name, Mods: within})
			}
		}
		if s.below(4) == 0 {
			list = append(list, api.Mod{Name: name, Class: pick(s, classWords()...)})
		}
	}
	return shuffled(s, list)
}

// P7.4
func TestLawMerged(t *testing.T) {
	s := source(714)
	merged := func(outer, inner []api.Mod) []api.Mod {
		t.Helper()
		list, err := names.Merge(outer, inner)
		if err != api.OK || !isOrdered(list) {
			t.Fatalf("Merge(%s; %s) = %s, %d", written(outer), written(inner), written(list), err)
		}
		return list
	}
	for range 1500 {
		a, b, c := s.list(3), s.list(3), s.list(3)
		ordered := merged(a, nil)
		said, want := saying{}, saying{}
		if said.say("", a); !want.say("", ordered) || !same(said, want) {
			t.Fatalf("%s is put in order as %s", written(a), written(ordered))
		}
		if !same(merged(nil, a), ordered) || !same(merged(a, a), ordered) || !same(merged(ordered, nil), ordered) {
			t.Fatalf("%s; %s; %s; %s", written(ordered), written(merged(nil, a)), written(merged(a, a)), written(merged(ordered, nil)))
		}
		first, second := merged(merged(a, b), c), merged(a, merged(b, c))
		if !same(first, second) {
			t.Fatalf("%s; %s; %s: %s, or %s", written(a), written(b), written(c), written(first), written(second))
		}
		// what the outer one says, and besides it what the inner one says
		said, over := saying{}, saying{}
		said.say("", b)
		over.say("", a)
		for key, text := range over {
			said[key] = text
		}
		got := saying{}
		if !got.say("", merged(a, b)) || !same(got, said) {
			t.Fatalf("%s over %s: %s", written(a), written(b), written(merged(a, b)))
		}
	}
}

// P7.5
func TestLawInherits(t *testing.T) {
	s := source(715)
	far := 0
	for range 600 {
		lib := s.library(t)
		inherits := func(a, b string) bool {
			ok, err := names.Inherits(lib, a, b)
			if err != api.OK {
				t.Fatalf("Inherits(%s, %s, %s): %d", libraryText(lib), a, b, err)
			}
			return ok
		}
		want := oracleOf(lib).inherits()
		for _, a := range lib {
			for _, b := range lib {
				ok := inherits(a.Name, b.Name)
				if ok != (a.Name == b.Name || want[[2]string{a.Name, b.Name}]) || ok && a.Name != b.Name && inherits(b.Name, a.Name) {
					t.Fatalf("Inherits(%s, %s, %s) = %v", libraryText(lib), a.Name, b.Name, ok)
				}
				for _, c := range lib {
					if ok && inherits(b.Name, c.Name) && !inherits(a.Name, c.Name) {
						t.Fatalf("%s: %s, %s, %s", libraryText(lib), a.Name, b.Name, c.Name)
					}
				}
				if ok && a.Name != b.Name && !slices.ContainsFunc(a.Extends, func(x api.Extend) bool { return x.Class == b.Name }) {
					far++
				}
			}
		}
	}
	if far < 80 {
		t.Errorf("%d inherit by way of others", far)
	}
}

// renamed returns classes with other names, everywhere.
func renamed(lib []api.Class, to func(name string) string) []api.Class {
	lib = clone(lib)
	var rename func(list []api.Mod)
	rename = func(list []api.Mod) {
		for i := range list {
			list[i].Class = to(list[i].Class)
			rename(list[i].Mods)
		}
	}
	for i := range lib {
		c := &lib[i]
		c.Name = to(c.Name)
		for j := range c.Extends {
			c.Extends[j].Class = to(c.Extends[j].Class)
			rename(c.Extends[j].Mods)
		}
		for j := range c.Comps {
			c.Comps[j].Class = to(c.Comps[j].Class)
			rename(c.Comps[j].Mods)
		}
	}
	return lib
}

// P7.6
func TestLawRenamed(t *testing.T) {
	s := source(716)
	for range 600 {
		lib := s.library(t)
		words := classWords()
		others := shuffled(&s, append(words, "M", "N", "Other"))
		to := func(name string) string {
			if i := slices.Index(words, name); i >= 0 {
				return others[i]
			}
			return name // a built-in class, or none
		}
		other := renamed(lib, to)
		if name, err := names.Check(other); err != api.OK {
			t.Fatalf("Check(%s): %q, %d", libraryText(other), name, err)
		}
		for _, a := range lib {
			full, got := fullOf(t, lib, a.Name), fullOf(t, other, to(a.Name))
			if want := renamed([]api.Class{full}, to)[0]; !same(got, want) {
				t.Fatalf("Full(%s, %s): %v, want %v", libraryText(other), to(a.Name), got, want)
			}
			uses, _ := names.Uses(lib, a.Name)
			for i, name := range uses {
				uses[i] = to(name)
			}
			slices.Sort(uses)
			if got, err := names.Uses(other, to(a.Name)); !same(got, uses) || err != api.OK {
				t.Fatalf("Uses(%s, %s): %v, want %v", libraryText(other), to(a.Name), got, uses)
			}
			for _, b := range lib {
				want, _ := names.Inherits(lib, a.Name, b.Name)
				if got, err := names.Inherits(other, to(a.Name), to(b.Name)); got != want || err != api.OK {
					t.Fatalf("Inherits(%s, %s, %s) = %v", libraryText(other), to(a.Name), to(b.Name), got)
				}
			}
		}
	}
	// the first class is that with the least name, so that it stays the first one if names keep their order
	to := func(name string) string {
		if name == "" || isBuiltIn(name) {
			return name
		}
		return "K" + name
	}
	for range 1000 {
		lib := s.broken(t)
		name, err := names.Check(lib)
		if got, e := names.Check(renamed(lib, to)); got != to(name) || e != err {
			t.Fatalf("Check(%s) = %q, %d, renamed: %q, %d", libraryText(lib), name, err, got, e)
		}
	}
}

package names_test

import (
	"slices"
	"strconv"
	"testing"

	"linkwork/api"
	"linkwork/names"
	"linkwork/syntax"
)

// source is a row of numbers that look random and are the same in every run.
type source uint64

func (s *source) below(n int) int {
	*s = *s*6364136223846793005 + 1442695040888963407
	return int(uint64(*s) >> 33 % uint64(n))
}

func pick[T any](s *source, list ...T) T {
	return list[s.below(len(list))]
}

// shuffled returns the elements of a list in another order.
func shuffled[T any](s *source, list []T) []T {
	list = slices.Clone(list)
	for i := range list {
		j := i + s.below(len(list)-i)
		list[i], list[j] = list[j], list[i]
	}
	return list
}

func (s *source) number() []api.Tree {
	return []api.Tree{{Op: "num", Text: strconv.Itoa(s.below(100))}}
}

// classWords are the names of classes, some of them those of components, too.
func classWords() []string {
	return []string{"A", "B", "C", "D", "E", "F", "a", "b", "start", "AA"}
}

// library returns a sound library.
func (s *source) library(t *testing.T) []api.Class {
	t.Helper()
	var lib []api.Class
	for _, name := range shuffled(s, classWords())[:2+s.below(6)] {
		for try := 0; ; try++ {
			c := s.class(lib, name)
			if _, err := names.Check(append(slices.Clone(lib), c)); err == api.OK {
				lib = append(lib, c)
				break
			}
			if try > 1000 {
				t.Fatalf("no class %s fits to %s, such as %+v", name, libraryText(lib), c)
			}
		}
	}
	return shuffled(s, lib)
}

// class returns a class that fits to a library, more often than not.
func (s *source) class(lib []api.Class, name string) api.Class {
	c := api.Class{Kind: pick(s, "model", "model", "model", "connector"), Name: name}
	for range s.below(3) {
		if base := s.other(lib, c.Kind); base != "" {
			full, _ := names.Full(lib, base)
			c.Extends = append(c.Extends, api.Extend{Class: base, Mods: s.mods(lib, full, 2)})
		}
	}
	for range s.below(4) {
		c.Comps = append(c.Comps, s.comp(lib, c.Kind))
	}
	if c.Kind == "model" {
		c.Eqs, c.Inits = s.stmts(), s.stmts()
	}
	return c
}

// other returns the name of a class of a kind (of any, if it is empty), if there is one.
func (s *source) other(lib []api.Class, kind string) string {
	var list []string
	for _, c := range lib {
		if kind == "" || c.Kind == kind {
			list = append(list, c.Name)
		}
	}
	if len(list) == 0 {
		return ""
	}
	return pick(s, list...)
}

func (s *source) comp(lib []api.Class, kind string) api.Comp {
	c := api.Comp{Class: "Real", Name: pick(s, "a", "b", "c", "d", "e", "f", "g", "h", "x", "y", "z", "start", "unit", "A")}
	if kind == "connector" {
		c.Prefix = pick(s, "", "flow")
	} else {
		switch s.below(6) {
		case 0:
			c.Prefix = pick(s, "", "discrete", "input")
		case 1:
			c.Prefix, c.Class = pick(s, "discrete", "parameter"), "Boolean"
		case 2:
			c.Prefix, c.Class = "parameter", pick(s, "Real", "Integer")
		case 3, 4, 5:
			if class := s.other(lib, ""); class != "" {
				c.Class, c.Replaceable = class, s.below(3) > 0
			}
		}
		if s.below(4) == 0 {
			c.Dims = s.number()
		}
	}
	c.Mods = s.modsOf(lib, c, c.Class, 2)
	if c.Prefix == "parameter" && s.below(2) == 0 {
		c.Value = s.number()
	}
	return c
}

// modsOf returns modifications of a component, as its class is redeclared.
func (s *source) modsOf(lib []api.Class, c api.Comp, class string, depth int) []api.Mod {
	full, err := names.Full(lib, class)
	if err == api.OK {
		return s.mods(lib, full, depth)
	}
	var list []api.Mod
	for _, name := range []string{"fixed", "unit", "start"} {
		if s.below(3) > 0 {
			continue
		}
		m := api.Mod{Name: name, Value: s.number()}
		switch {
		case name == "unit" && class == "Real":
			m.Value[0] = api.Tree{Op: "string", Text: "m"}
		case c.Prefix == "parameter" || c.Prefix == "input" || class != "Real" && (class != "Boolean" || name != "start"):
			continue
		}
		list = append(list, m)
	}
	return list
}

// mods returns modifications for a full class.
func (s *source) mods(lib []api.Class, full api.Class, depth int) []api.Mod {
	var list []api.Mod
	for _, c := range full.Comps {
		class := c.Class
		if s.below(2) == 0 {
			continue
		}
		if c.Replaceable && s.below(2) == 0 {
			var fit []string
			for _, x := range lib {
				if ok, _ := names.Inherits(lib, x.Name, c.Class); ok {
					fit = append(fit, x.Name)
				}
			}
			class = pick(s, fit...)
			list = append(list, api.Mod{Name: c.Name, Class: class})
		}
		if c.Prefix == "parameter" && s.below(2) == 0 {
			list = append(list, api.Mod{Name: c.Name, Value: s.number()})
		}
		if depth > 0 {
			if within := s.modsOf(lib, c, class, depth-1); len(within) > 0 {
				list = append(list, api.Mod{Name: c.Name, Mods: within})
			}
		}
	}
	return shuffled(s, list)
}

func (s *source) stmts() []api.Stmt {
	var list []api.Stmt
	for range s.below(3) {
		list = append(list, api.Stmt{Kind: "equal", Left: s.number(), Right: s.number()})
	}
	return list
}

// broken returns a library of which something was changed, so that it need not be sound, but is one.
func (s *source) broken(t *testing.T) []api.Class {
	t.Helper()
	for {
		lib := clone(s.library(t))
		for range 1 + s.below(2) {
			s.change(lib)
		}
		if !slices.ContainsFunc(lib, func(c api.Class) bool { return syntax.Check(c) != api.OK }) {
			return lib
		}
	}
}

// change changes something in classes.
func (s *source) change(lib []api.Class) {
	c := &lib[s.below(len(lib))]
	class := pick(s, append(classWords(), "Real", "Boolean", "Integer", "Nothing")...)
	if s.below(10) == 0 {
		c.Extends = append(c.Extends, api.Extend{Class: class})
	}
	if len(c.Comps) > 0 && s.below(2) == 0 {
		s.changeComp(&c.Comps[s.below(len(c.Comps))], class)
		return
	}
	var lists []*[]api.Mod
	for i := range c.Comps {
		lists = append(lists, &c.Comps[i].Mods)
	}
	for i := range c.Extends {
		lists = append(lists, &c.Extends[i].Mods)
		if s.below(8) == 0 {
			c.Extends[i].Class = class
		}
	}
	if len(lists) > 0 {
		s.changeMods(pick(s, lists...), class)
	} else if s.below(4) == 0 {
		c.Kind = pick(s, "model", "connector")
	}
}

func (s *source) changeComp(c *api.Comp, class string) {
	switch s.below(8) {
	case 0, 1:
		c.Class = class
	case 2:
		c.Name = pick(s, "a", "b", "c", "x", "y")
	case 3:
		c.Prefix = pick(s, "", "parameter", "discrete", "input", "flow")
	case 4:
		c.Value = s.number()
	case 5:
		c.Replaceable = !c.Replaceable
	case 6:
		c.Dims = s.number()
	case 7:
		c.Mods = append(c.Mods, s.mod(class, c.Mods))
	}
}

// changeMods changes a list, or, if it has some, lists within it.
func (s *source) changeMods(list *[]api.Mod, class string) {
	if len(*list) > 0 && s.below(4) > 0 {
		m := &(*list)[s.below(len(*list))]
		switch {
		case len(m.Mods) > 0 && s.below(4) > 0:
			s.changeMods(&m.Mods, class)
		case m.Class != "" && s.below(2) == 0:
			m.Class = class
		case s.below(3) > 0:
			*m = s.mod(class, *list)
		default:
			*list = slices.DeleteFunc(*list, func(x api.Mod) bool { return x.Name == m.Name })
		}
		return
	}
	*list = append(*list, s.mod(class, *list))
}

// mod returns some modification, perhaps of a name of a list.
func (s *source) mod(class string, list []api.Mod) api.Mod {
	m := api.Mod{Name: pick(s, "a", "b", "c", "x", "y", "start", "fixed", "unit")}
	if len(list) > 0 && s.below(2) == 0 {
		m.Name = pick(s, list...).Name
	}
	switch s.below(5) {
	case 0:
		m.Class = class
	case 1:
		m.Value = []api.Tree{{Op: "string", Text: "m"}}
	case 2, 3:
		m.Value = s.number()
	case 4:
		m.Mods = []api.Mod{{Name: pick(s, "a", "b", "x", "start", "unit"), Value: s.number()}}
	}
	return m
}

// isOrdered reports whether modifications are in the order of a merged list, at all levels.
func isOrdered(list []api.Mod) bool {
	key := func(m api.Mod) string {
		switch {
		case m.Class != "":
			return m.Name + " 2"
		case len(m.Mods) > 0:
			return m.Name + " 1"
		}
		return m.Name + " 0"
	}
	for i, m := range list {
		if i > 0 && key(list[i-1]) >= key(m) || !isOrdered(m.Mods) {
			return false
		}
	}
	return true
}

package names

import (
	"slices"

	"linkwork/api"
	"linkwork/syntax"
)

// library has classes that are valid, by their names, and what was found of them.
type library struct {
	classes map[string]api.Class
	names   []string // rising
	fulls   map[string]full
}

// read returns the library that classes are, which need not be sound.
func read(lib []api.Class) (*library, api.Errno) {
	if err := classesError(lib); err != api.OK {
		return nil, err
	}
	l := &library{classes: make(map[string]api.Class), fulls: make(map[string]full)}
	for _, c := range lib {
		if l.has(c.Name) || isBuiltIn(c.Name) {
			return nil, api.ErrName
		}
		l.classes[c.Name] = c
		l.names = append(l.names, c.Name)
	}
	slices.Sort(l.names)
	return l, api.OK
}

// classesError returns why classes are too many, or not valid. What is too much comes first, wherever it is.
func classesError(lib []api.Class) api.Errno {
	if len(lib) > api.MaxClass {
		return api.ErrSize
	}
	err := api.OK
	for _, c := range lib {
		switch syntax.Check(c) {
		case api.ErrSize:
			return api.ErrSize
		case api.ErrForm:
			err = api.ErrForm
		}
	}
	return err
}

// sound returns a library, which must be sound and have these classes.
func sound(lib []api.Class, names ...string) (*library, api.Errno) {
	l, err := read(lib)
	if err != api.OK {
		return nil, err
	}
	if _, err := l.fault(); err != api.OK {
		return nil, err
	}
	for _, name := range names {
		if !l.has(name) {
			return nil, api.ErrName
		}
	}
	return l, api.OK
}

func (l *library) has(name string) bool {
	_, ok := l.classes[name]
	return ok
}

// reached returns the classes of the library that a class leads to, by one step or more.
func (l *library) reached(from string, next func(name string) []string) map[string]bool {
	seen := make(map[string]bool)
	var visit func(name string)
	visit = func(name string) {
		for _, to := range next(name) {
			if l.has(to) && !seen[to] {
				seen[to] = true
				visit(to)
			}
		}
	}
	visit(from)
	return seen
}

// bases returns the names in the extends clauses of a class.
func (l *library) bases(name string) []string {
	var list []string
	for _, x := range l.classes[name].Extends {
		list = append(list, x.Class)
	}
	return list
}

// inherits reports whether a class is another one, or inherits from it.
func (l *library) inherits(a, b string) bool {
	return a == b || l.reached(a, l.bases)[b]
}

// parts returns the names of the classes of components of a full class, and of those that are redeclared within them.
func (l *library) parts(name string) []string {
	var list []string
	for _, c := range l.full(name).Comps {
		list = append(list, c.Class)
		list = append(list, redeclared(c.Mods)...)
	}
	return list
}

// redeclared returns the classes of all redeclarations, at any level.
func redeclared(mods []api.Mod) []string {
	var list []string
	for _, m := range mods {
		if m.Class != "" {
			list = append(list, m.Class)
		}
		list = append(list, redeclared(m.Mods)...)
	}
	return list
}

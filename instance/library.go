package instance

import (
	"linkwork/api"
	"linkwork/names"
)

// library is a sound library, with what was found of its classes.
type library struct {
	classes []api.Class // without statements, which do not matter here
	kinds   map[string]string
	fulls   map[string]*full
	heirs   map[[2]string]bool // whether the first class is the second one, or inherits from it
}

// full is the components of a full class.
type full struct {
	comps []api.Comp
	at    map[string]int // the indices of components by their names
}

// readLibrary returns the library that classes are, which must be sound.
func readLibrary(lib []api.Class) (*library, api.Errno) {
	if _, err := names.Check(lib); err != api.OK {
		return nil, err
	}
	l := &library{kinds: make(map[string]string), fulls: make(map[string]*full), heirs: make(map[[2]string]bool)}
	for _, c := range lib {
		c.Eqs, c.Inits = nil, nil
		l.classes = append(l.classes, c)
		l.kinds[c.Name] = c.Kind
	}
	return l, api.OK
}

// modelError returns why a class is no model of the library.
func (l *library) modelError(name string) api.Errno {
	kind, ok := l.kinds[name]
	switch {
	case !ok:
		return api.ErrName
	case kind != kindModel:
		return api.ErrType
	}
	return api.OK
}

func (l *library) full(name string) *full {
	if f, ok := l.fulls[name]; ok {
		return f
	}
	c, _ := names.Full(l.classes, name)
	f := &full{c.Comps, make(map[string]int)}
	for i, part := range c.Comps {
		f.at[part.Name] = i
	}
	l.fulls[name] = f
	return f
}

// comp returns the component with a name; false if there is none.
func (f *full) comp(name string) (api.Comp, bool) {
	i, ok := f.at[name]
	if !ok {
		return api.Comp{}, false
	}
	return f.comps[i], true
}

// inherits reports whether a class is another one, or inherits from it.
func (l *library) inherits(a, b string) bool {
	pair := [2]string{a, b}
	yes, known := l.heirs[pair]
	if !known {
		yes, _ = names.Inherits(l.classes, a, b)
		l.heirs[pair] = yes
	}
	return yes
}

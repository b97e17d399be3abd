package names

import "linkwork/api"

// maxFull is the greatest number of components, of Eqs, and of Inits of a full class.
const maxFull = 400

// full is a full class.
type full struct {
	api.Class
	at map[string]int // the indices of its components by their names
}

// full returns the full class of a class that does not inherit from itself; of one that the library does not have, one
// without components. What is too large is not made to its end, but stays too large.
func (l *library) full(name string) full {
	if f, ok := l.fulls[name]; ok {
		return f
	}
	own := l.classes[name]
	f := full{Class: api.Class{Kind: own.Kind, Name: own.Name}, at: make(map[string]int)}
	for _, x := range own.Extends {
		f.inherit(l.full(x.Class), x.Mods)
		if f.isTooLarge() {
			break
		}
	}
	for _, c := range own.Comps {
		c.Mods = merge(c.Mods, nil)
		f.Comps = append(f.Comps, c)
	}
	f.Eqs = append(f.Eqs, own.Eqs...)
	f.Inits = append(f.Inits, own.Inits...)
	for i, c := range f.Comps {
		f.at[c.Name] = i
	}
	l.fulls[name] = f
	return f
}

// inherit adds what an extends clause brings.
func (f *full) inherit(base full, mods []api.Mod) {
	for _, c := range base.Comps {
		f.Comps = append(f.Comps, put(mods, c))
	}
	f.Eqs = append(f.Eqs, base.Eqs...)
	f.Inits = append(f.Inits, base.Inits...)
}

// put puts those modifications over a component that are for it.
func put(mods []api.Mod, c api.Comp) api.Comp {
	for _, m := range mods {
		if m.Name != c.Name {
			continue
		}
		switch saysOf(m) {
		case saysValue:
			c.Value = m.Value
		case saysMods:
			c.Mods = merge(m.Mods, c.Mods)
		case saysClass:
			c.Class = m.Class
		}
	}
	return c
}

func (f full) isTooLarge() bool {
	return max(len(f.Comps), len(f.Eqs), len(f.Inits)) > maxFull
}

// comp returns the component with a name; false if there is none.
func (f full) comp(name string) (api.Comp, bool) {
	i, ok := f.at[name]
	if !ok {
		return api.Comp{}, false
	}
	return f.Comps[i], true
}

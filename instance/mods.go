package instance

import (
	"linkwork/api"
	"linkwork/names"
)

// modsError returns why modifications may not be put over a model, as those of an extends clause.
func (l *library) modsError(name string, mods []api.Mod) api.Errno {
	if _, err := names.Merge(mods, nil); err != api.OK {
		return err
	}
	for _, m := range mods {
		if _, ok := l.full(name).comp(m.Name); !ok {
			return api.ErrName
		}
	}
	put := layers{{mods: mods}}
	if !put.fit(l.kindOf(name, "")) {
		return api.ErrType
	}
	for _, c := range l.full(name).comps {
		inner := append(put.within(c.Name), layer{mods: c.Mods})
		if !l.fitDeep(put.class(c), c.Prefix, inner) {
			return api.ErrType
		}
	}
	return api.OK
}

// fitDeep reports whether modifications, and those within them, may be put on a component. What the classes of the
// components within it say besides is not looked at.
func (l *library) fitDeep(class, prefix string, put layers) bool {
	if !put.fit(l.kindOf(class, prefix)) {
		return false
	}
	for _, m := range put.merged() {
		c, _ := l.full(class).comp(m.Name)
		if len(m.Mods) > 0 && !l.fitDeep(put.class(c), c.Prefix, put.within(m.Name)) {
			return false
		}
	}
	return true
}

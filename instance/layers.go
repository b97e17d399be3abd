package instance

import "linkwork/api"

// expression is a tree in the scope of an instance.
type expression struct {
	api.Tree
	home *place // that of the instance
}

// layer is modifications whose expressions are in the scope of one instance.
type layer struct {
	mods []api.Mod
	home *place
}

// layers are all modifications that are put on something, the outermost ones first. They stay apart, since what is
// written in different classes is in different scopes.
type layers []layer

// value returns the Value of a name that counts; false if there is none.
func (l layers) value(name string) (expression, bool) {
	for _, list := range l {
		for _, m := range list.mods {
			if m.Name == name && len(m.Value) > 0 {
				return expression{m.Value[0], list.home}, true
			}
		}
	}
	return expression{}, false
}

// class returns the class of a component after redeclaration.
func (l layers) class(c api.Comp) string {
	for _, list := range l {
		for _, m := range list.mods {
			if m.Name == c.Name && m.Class != "" {
				return m.Class
			}
		}
	}
	return c.Class
}

// within returns what is put on the component with a name.
func (l layers) within(name string) layers {
	var inner layers
	for _, list := range l {
		for _, m := range list.mods {
			if m.Name == name && len(m.Mods) > 0 {
				inner = append(inner, layer{m.Mods, list.home})
			}
		}
	}
	return inner
}

// merged returns the modifications that count: for each name the outermost Value, list and Class.
func (l layers) merged() []api.Mod {
	type slot struct {
		name            string
		isList, isClass bool
	}
	seen := make(map[slot]bool)
	var list []api.Mod
	for _, outer := range l {
		for _, m := range outer.mods {
			s := slot{m.Name, len(m.Mods) > 0, m.Class != ""}
			if !seen[s] {
				seen[s] = true
				list = append(list, m)
			}
		}
	}
	return list
}

// fit reports whether each modification that counts, by itself, may be put on a component of a kind.
func (l layers) fit(k kind) bool {
	for _, m := range l.merged() {
		if !k.takes(m) {
			return false
		}
	}
	return true
}

package names

import (
	"cmp"
	"slices"

	"linkwork/api"
	"linkwork/syntax"
)

// says is what a modification says of its name, in the order of a merged list.
type says int

const (
	saysValue says = iota
	saysMods
	saysClass
)

func saysOf(m api.Mod) says {
	switch {
	case m.Class != "":
		return saysClass
	case len(m.Mods) > 0:
		return saysMods
	}
	return saysValue
}

// merged is a modification of a merged list. It embeds the one that was written.
type merged struct {
	api.Mod
	says says
}

func (m merged) compare(other merged) int {
	return cmp.Or(cmp.Compare(m.Name, other.Name), cmp.Compare(m.says, other.says))
}

// merge merges modifications, the outer ones over the inner ones. The lists do not say anything twice.
func merge(outer, inner []api.Mod) []api.Mod {
	var all []merged
	for _, m := range slices.Concat(outer, inner) {
		all = append(all, merged{m, saysOf(m)})
	}
	slices.SortStableFunc(all, merged.compare) // so that an outer one stays ahead of the inner one
	var list []api.Mod
	for len(all) > 0 {
		m := all[0]
		all = all[1:]
		var under []api.Mod
		if len(all) > 0 && m.compare(all[0]) == 0 {
			under = all[0].Mods
			all = all[1:]
		}
		m.Mods = merge(m.Mods, under)
		list = append(list, m.Mod)
	}
	return list
}

// saysTwice reports whether a list, at any level, says the same of a name twice.
func saysTwice(mods []api.Mod) bool {
	type slot struct {
		name string
		says says
	}
	seen := make(map[slot]bool)
	for _, m := range mods {
		s := slot{m.Name, saysOf(m)}
		if seen[s] || saysTwice(m.Mods) {
			return true
		}
		seen[s] = true
	}
	return false
}

// modsError returns why lists are not as those of a valid class. What is malformed comes first, wherever it is.
func modsError(lists ...[]api.Mod) api.Errno {
	err := api.OK
	for _, mods := range lists {
		if len(mods) > api.MaxPart {
			err = api.ErrSize
		}
		for _, m := range mods {
			x := api.Extend{Class: "Any", Mods: []api.Mod{m}}
			switch syntax.Check(api.Class{Kind: model, Name: "Any", Extends: []api.Extend{x}}) {
			case api.ErrForm:
				return api.ErrForm
			case api.ErrSize:
				err = api.ErrSize
			}
		}
	}
	return err
}

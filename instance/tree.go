package instance

import (
	"cmp"
	"slices"

	"linkwork/api"
)

// maxPlaces is the greatest number of places of a model, and maxInstances of their instances.
const (
	maxPlaces    = 400
	maxInstances = 400
)

// tree is all places of a model.
type tree struct {
	*library
	root   *place
	places []*place // without the root, in the order of their names
}

// treeOf returns the tree of a model with modifications.
func (l *library) treeOf(name string, mods []api.Mod) (*tree, api.Errno) {
	root := &place{kind: l.kindOf(name, "")}
	root.put = layers{{mods, root}}
	root.extent.find = root.measure
	t := &tree{library: l, root: root}
	if !t.grow(root) {
		return nil, api.ErrSize
	}
	slices.SortFunc(t.places, func(a, b *place) int { return cmp.Compare(a.name, b.name) })
	return t, api.OK
}

// grow adds all places in one; false if they are too many.
func (t *tree) grow(p *place) bool {
	home, ok := p.kind.(*part)
	if !ok {
		return true
	}
	for _, c := range home.comps {
		if len(t.places) == maxPlaces {
			return false
		}
		q := t.placeIn(p, c)
		home.places[c.Name] = q
		t.places = append(t.places, q)
		if !t.grow(q) {
			return false
		}
	}
	return true
}

// placesError returns why something may not be put on a place.
func (t *tree) placesError() api.Errno {
	for _, p := range t.places {
		if !p.put.fit(p.kind) {
			return api.ErrType
		}
	}
	return api.OK
}

// settle finds all that is said of places; ErrCycle if something depends on itself, otherwise the first error.
func (t *tree) settle() api.Errno {
	var facts []*fact
	for _, p := range t.places {
		p.link()
		facts = append(facts, &p.extent)
		for _, f := range p.kind.formulas() {
			facts = append(facts, &f.fact)
		}
	}
	if slices.ContainsFunc(facts, (*fact).leadsToItself) {
		return api.ErrCycle
	}
	for _, f := range facts {
		f.settle()
	}
	return t.firstError()
}

func (t *tree) firstError() api.Errno {
	for _, p := range t.places {
		if err := p.extent.failure(); err != api.OK {
			return err
		}
	}
	for _, p := range t.places {
		for _, f := range p.kind.formulas() {
			if err := f.failure(); err != api.OK {
				return err
			}
		}
		if p.kind.isWrong() {
			return api.ErrForm
		}
	}
	return api.OK
}

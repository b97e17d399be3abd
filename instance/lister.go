package instance

import (
	"cmp"
	"slices"
	"strconv"
	"strings"

	"linkwork/api"
)

// lister makes the instances of places.
type lister struct {
	list []api.Inst
}

// instances returns all instances, rising by Path; ErrSize if something of them is too much.
func (t *tree) instances() ([]api.Inst, api.Errno) {
	l := &lister{}
	if err := l.addInside(t.root, ""); err != api.OK {
		return nil, err
	}
	slices.SortFunc(l.list, func(a, b api.Inst) int { return cmp.Compare(a.Path, b.Path) })
	return l.list, api.OK
}

// addInside adds all instances in one, whose Path, and the point behind it, are given.
func (l *lister) addInside(p *place, prefix string) api.Errno {
	home, ok := p.kind.(*part)
	if !ok {
		return api.OK
	}
	for _, c := range home.comps {
		if err := l.add(home.places[c.Name], prefix); err != api.OK {
			return err
		}
	}
	return api.OK
}

// add adds all instances of a place that are in one instance, and what is in them.
func (l *lister) add(p *place, prefix string) api.Errno {
	if !p.extent.isKnown {
		return api.ErrSize
	}
	for i := range p.count() {
		x, err := p.kind.instance(i)
		if err != api.OK {
			return err
		}
		x.Path = prefix + p.comp.Name + p.bracketed(i)
		if len(x.Path) > api.MaxName || len(l.list) == maxInstances {
			return api.ErrSize
		}
		l.list = append(l.list, x)
		if err := l.addInside(p, x.Path+"."); err != api.OK {
			return err
		}
	}
	return api.OK
}

// bracketed returns the index of an element as it stands in a Path.
func (p *place) bracketed(element int) string {
	if len(p.dims) == 0 {
		return ""
	}
	index := make([]string, len(p.dims))
	for i := len(p.dims) - 1; i >= 0; i-- {
		index[i] = strconv.Itoa(element%p.dims[i] + 1)
		element /= p.dims[i]
	}
	return "[" + strings.Join(index, ",") + "]"
}

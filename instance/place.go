package instance

import (
	"linkwork/api"
	"linkwork/arrays"
)

// place is a component, whatever its dimensions and those of what it is in; or the root.
type place struct {
	name   string // its words with `.` between; that of the root is empty
	in     *place // the root is in none
	comp   api.Comp
	kind   kind
	put    layers // what is put on it
	extent fact   // its dimensions
	dims   []int  // as soon as they are known
}

// placeIn returns the place of a component.
func (l *library) placeIn(in *place, c api.Comp) *place {
	p := &place{name: c.Name, in: in, comp: c}
	if in.name != "" {
		p.name = in.name + "." + c.Name
	}
	p.extent.find = p.measure
	p.put = append(in.put.within(c.Name), layer{c.Mods, in})
	p.kind = l.kindOf(in.put.class(c), c.Prefix)
	switch k := p.kind.(type) {
	case *parameter:
		k.unit = p.unit()
		k.value = p.valueFormula(k.class)
	case *variable:
		k.isOutside = in.in == nil
		k.unit = p.unit()
		k.start = p.attribute(attributeStart, k.class)
		k.fixed = p.attribute(attributeFixed, classBoolean)
	}
	return p
}

// valueFormula returns the Value of a parameter: the outermost one that is put on it, or its own.
func (p *place) valueFormula(class string) *formula {
	source, isThere := p.in.put.value(p.comp.Name)
	if !isThere && len(p.comp.Value) > 0 {
		source, isThere = expression{p.comp.Value[0], p.in}, true
	}
	return formulaFor(p, class, source, isThere)
}

func (p *place) attribute(name, class string) *formula {
	source, isThere := p.put.value(name)
	return formulaFor(p, class, source, isThere)
}

func (p *place) unit() []api.Tree {
	source, isThere := p.put.value(attributeUnit)
	if !isThere {
		return nil
	}
	return []api.Tree{source.Tree}
}

// inside returns the place of a component of a place; false if there is none.
func (p *place) inside(word string) (*place, bool) {
	home, ok := p.kind.(*part)
	if !ok {
		return nil, false
	}
	q, ok := home.places[word]
	return q, ok
}

// given returns the Value of a parameter; false if the place is that of something else.
func (p *place) given() (*formula, bool) {
	k, ok := p.kind.(*parameter)
	if !ok {
		return nil, false
	}
	return k.value, true
}

// asWhole returns the Value of a parameter that is a whole number in the scope around it; false if it is none.
func (p *place) asWhole() (*formula, bool) {
	value, ok := p.given()
	return value, ok && value.class == classInteger && len(p.comp.Dims) == 0
}

// along returns all places on a path from a place on, without that one; false if there is no such path.
func (p *place) along(words []string) ([]*place, bool) {
	var list []*place
	for _, word := range words {
		q, ok := p.inside(word)
		if !ok {
			return nil, false
		}
		list = append(list, q)
		p = q
	}
	return list, true
}

// named returns the places that an expression in the scope of an instance at a place names, anywhere in it.
func (p *place) named(t api.Tree) []*place {
	var list []*place
	if t.Op == opRef {
		if path, ok := p.along(wordsOf(t)); ok {
			list = append(list, path[len(path)-1])
		}
	}
	for _, kid := range t.Kids {
		list = append(list, p.named(kid)...)
	}
	return list
}

// wordsOf returns the words of a ref.
func wordsOf(ref api.Tree) []string {
	var words []string
	for _, part := range ref.Kids {
		words = append(words, part.Text)
	}
	return words
}

// link says what the dimensions of a place, and its formulas, depend on.
func (p *place) link() {
	p.extent.needs = []*fact{&p.in.extent}
	for _, t := range p.comp.Dims {
		for _, q := range p.in.named(t) {
			p.extent.needs = append(p.extent.needs, &q.extent)
			if value, ok := q.asWhole(); ok {
				p.extent.needs = append(p.extent.needs, &value.fact)
			}
		}
	}
	for _, f := range p.kind.formulas() {
		f.link()
	}
}

// measure finds the dimensions of a place, after all that they name.
func (p *place) measure() api.Errno {
	var dims []int
	for _, t := range p.comp.Dims {
		n, err := arrays.Value(view{p.in}, t)
		switch {
		case err != api.OK:
			return err
		case n < 0 || n > api.MaxDim:
			return api.ErrArg
		}
		dims = append(dims, n)
	}
	p.dims = dims
	return api.OK
}

// count returns the number of the elements of a place.
func (p *place) count() int {
	n := 1
	for _, d := range p.dims {
		n *= d
	}
	return n
}

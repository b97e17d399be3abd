package instance

import (
	"slices"

	"linkwork/api"
	"linkwork/arrays"
)

// formula gives the elements of a place what an expression says of them: that is a Value, a start, or a fixed.
type formula struct {
	fact
	of       *place
	class    string // the built-in class that has such values
	source   expression
	isThere  bool    // whether there is an expression; otherwise all is 0, or false
	isScalar bool    // all elements have the same value
	values   []value // that one, or those of the elements, in the order of their indices
	isLong   bool    // there are no values, since a number is too long to be calculated with
}

// formulaFor returns a formula of a place, with what its expression names still to be said.
func formulaFor(p *place, class string, source expression, isThere bool) *formula {
	f := &formula{of: p, class: class, source: source, isThere: isThere}
	f.find = f.evaluate
	return f
}

// link says what a formula depends on.
func (f *formula) link() {
	f.needs = []*fact{&f.of.extent}
	if !f.isThere {
		return
	}
	for _, p := range f.source.home.named(f.source.Tree) {
		f.needs = append(f.needs, &p.extent)
		if value, ok := p.given(); ok {
			f.needs = append(f.needs, &value.fact)
		}
	}
}

// evaluate finds what a formula gives, after all that it names.
func (f *formula) evaluate() api.Errno {
	if !f.isThere {
		f.values, f.isScalar = []value{{}}, true
		return api.OK
	}
	in := view{f.source.home}
	numbers, err := arrays.Shape(in, f.source.Tree)
	if err != api.OK {
		return err
	}
	f.isScalar = len(numbers) == 0
	if !f.isScalar && !slices.Equal(numbers, f.of.dims) {
		return api.ErrDim
	}
	valueType, ok := in.typeOf(f.source.Tree)
	if !ok {
		return api.ErrType
	}
	values, err := in.elements(f.source.Tree)
	f.isLong = err == tooLong
	switch {
	case err != api.OK && !f.isLong:
		return err
	case valueType != typeIn(f.class):
		return api.ErrType
	case f.class == classInteger && f.isLong:
		return tooLong
	case f.class == classInteger && !areWhole(values):
		return api.ErrType
	}
	f.values = values
	return api.OK
}

// element returns what an element has.
func (f *formula) element(i int) value {
	if f.isScalar {
		i = 0
	}
	return f.values[i]
}

// all returns what all elements have, in the order of their indices.
func (f *formula) all() []value {
	if f.isScalar {
		return slices.Repeat(f.values, f.of.count())
	}
	return f.values
}

// hasValues reports whether it is known what the elements have.
func (f *formula) hasValues() bool {
	return f.isKnown && !f.isLong
}

// text returns the value of an element.
func (f *formula) text(i int) (string, api.Errno) {
	if !f.hasValues() {
		return "", api.ErrSize
	}
	return f.element(i).text(typeIn(f.class))
}

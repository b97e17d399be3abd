package instance

import (
	"slices"

	"linkwork/api"
)

// kind is what a component is: a part, a parameter or a variable.
type kind interface {
	// takes reports whether a modification, by itself, may be put on a component of this kind.
	takes(m api.Mod) bool
	// formulas returns the expressions that give the elements of the place what they have, in the order in which their
	// errors count.
	formulas() []*formula
	// isWrong reports whether what the formulas give does not go together, or the unit is none.
	isWrong() bool
	// instance returns the instance of an element of the place, but for its Path.
	instance(element int) (api.Inst, api.Errno)
}

// kindOf returns the kind of components of a class, and with a prefix.
func (l *library) kindOf(class, prefix string) kind {
	b := builtIn{class: class, prefix: prefix}
	switch {
	case !isBuiltIn(class):
		return &part{library: l, full: l.full(class), class: class, places: make(map[string]*place)}
	case prefix == prefixParameter:
		return &parameter{builtIn: b}
	}
	return &variable{builtIn: b}
}

// part is the kind of components of a class of the library, and of the root.
type part struct {
	*library
	*full
	class  string
	places map[string]*place // those of its components, by their names
}

func (k *part) takes(m api.Mod) bool {
	c, ok := k.comp(m.Name)
	switch {
	case !ok:
		return false
	case m.Class != "":
		return c.Replaceable && k.inherits(m.Class, c.Class)
	case len(m.Value) > 0:
		return c.Prefix == prefixParameter && m.Value[0].Op != opString
	}
	return true
}

func (k *part) formulas() []*formula {
	return nil
}

func (k *part) isWrong() bool {
	return false
}

func (k *part) instance(element int) (api.Inst, api.Errno) {
	return api.Inst{Class: k.class, Kind: -1}, api.OK
}

// builtIn is what all components of built-in classes have.
type builtIn struct {
	class, prefix string
	unit          []api.Tree // none, or the string
}

func (b *builtIn) takes(m api.Mod) bool {
	if len(m.Value) == 0 {
		return false
	}
	isString := m.Value[0].Op == opString
	isGiven := b.prefix == prefixParameter || b.prefix == prefixInput
	switch m.Name {
	case attributeStart:
		return !isGiven && !isString
	case attributeFixed:
		return b.class == classReal && !isGiven && !isString
	case attributeUnit:
		return b.class == classReal && isString
	}
	return false
}

func (b *builtIn) hasWrongUnit() bool {
	return len(b.unit) > 0 && !isUnit(b.unit[0].Text)
}

func (b *builtIn) unitText() string {
	if len(b.unit) == 0 {
		return ""
	}
	return b.unit[0].Text
}

// parameter is the kind of components with this prefix.
type parameter struct {
	builtIn
	value *formula
}

func (k *parameter) formulas() []*formula {
	return []*formula{k.value}
}

func (k *parameter) isWrong() bool {
	return k.hasWrongUnit()
}

func (k *parameter) instance(element int) (api.Inst, api.Errno) {
	text, err := k.value.text(element)
	return api.Inst{Class: k.class, Kind: api.Param, Type: typeIn(k.class), Value: text, Unit: k.unitText()}, err
}

// variable is the kind of all other components of built-in classes.
type variable struct {
	builtIn
	isOutside    bool // it is a component of the root
	start, fixed *formula
}

func (k *variable) formulas() []*formula {
	return []*formula{k.start, k.fixed}
}

func (k *variable) isWrong() bool {
	isFixed := slices.ContainsFunc(k.fixed.values, func(v value) bool { return v.truth })
	return isFixed && !k.start.isThere || k.hasWrongUnit()
}

func (k *variable) instance(element int) (api.Inst, api.Errno) {
	x := api.Inst{Class: k.class, Kind: k.variableKind(), Type: typeIn(k.class), Unit: k.unitText(), Flow: k.prefix == prefixFlow}
	if !k.fixed.hasValues() {
		return api.Inst{}, api.ErrSize
	}
	x.Fixed = k.fixed.element(element).truth
	if !k.start.isThere {
		return x, api.OK
	}
	text, err := k.start.text(element)
	x.Start = text
	return x, err
}

func (k *variable) variableKind() int {
	switch {
	case k.prefix == prefixDiscrete:
		return api.Discrete
	case k.prefix == prefixInput && k.isOutside:
		return api.Input
	}
	return api.Continuous
}

package names

import (
	"slices"

	"linkwork/api"
)

// The built-in classes, and the other words of sources that rules are about.
const (
	classReal    = "Real"
	classInteger = "Integer"
	classBoolean = "Boolean"

	model     = "model"
	connector = "connector"

	parameter = "parameter"
	discrete  = "discrete"
	input     = "input"
	flow      = "flow"

	start = "start"
	fixed = "fixed"
	unit  = "unit"

	opString = "string"
)

func isBuiltIn(class string) bool {
	return class == classReal || class == classInteger || class == classBoolean
}

// isPrefixed reports whether a component may have its class, with all that is written ahead of it and as its value, in
// a class of a kind.
func isPrefixed(kind string, c api.Comp) bool {
	if kind == connector && (c.Class != classReal || c.Prefix != "" && c.Prefix != flow || len(c.Dims) > 0) {
		return false
	}
	if c.Replaceable && isBuiltIn(c.Class) || len(c.Value) > 0 && c.Prefix != parameter {
		return false
	}
	switch c.Prefix {
	case parameter:
		return isBuiltIn(c.Class)
	case discrete:
		return c.Class == classReal || c.Class == classBoolean
	case input:
		return c.Class == classReal
	case flow:
		return c.Class == classReal && kind == connector
	}
	return c.Class != classInteger && c.Class != classBoolean
}

// mayRedeclare reports whether a modification for a class redeclares what it may, if it is a redeclaration. What is
// within it is not asked for.
func (l *library) mayRedeclare(class string, m api.Mod) bool {
	if m.Class == "" {
		return true
	}
	c, ok := l.full(class).comp(m.Name)
	return ok && c.Replaceable && l.inherits(m.Class, c.Class)
}

// mayRedeclareAll reports whether all modifications for a class, and those within them, redeclare what they may.
func (l *library) mayRedeclareAll(class string, mods []api.Mod) bool {
	misfit := func(m api.Mod) bool {
		c, _ := l.full(class).comp(m.Name)
		return !l.mayRedeclare(class, m) || len(m.Mods) > 0 && !l.mayRedeclareAll(classIn(mods, c), m.Mods)
	}
	return !slices.ContainsFunc(mods, misfit)
}

// classIn returns the class of a component, as modifications redeclare it.
func classIn(mods []api.Mod, c api.Comp) string {
	for _, m := range mods {
		if m.Name == c.Name && m.Class != "" {
			return m.Class
		}
	}
	return c.Class
}

// mayModify reports whether modifications are as a component of a class, and with a prefix, may have them. Whether they
// may redeclare what they do is not asked for.
func (l *library) mayModify(class, prefix string, mods []api.Mod) bool {
	misfit := func(m api.Mod) bool {
		if isBuiltIn(class) {
			return !isAttribute(class, prefix, m)
		}
		c, ok := l.full(class).comp(m.Name)
		if !ok || len(m.Value) > 0 && (c.Prefix != parameter || hasString(m.Value)) {
			return true
		}
		return len(m.Mods) > 0 && !l.mayModify(classIn(mods, c), c.Prefix, m.Mods)
	}
	return !slices.ContainsFunc(mods, misfit)
}

// isAttribute reports whether a modification is what a component of a built-in class may have.
func isAttribute(class, prefix string, m api.Mod) bool {
	if len(m.Value) == 0 {
		return false
	}
	isGiven := prefix == parameter || prefix == input
	switch m.Name {
	case start:
		return class != classInteger && !isGiven && !hasString(m.Value)
	case fixed:
		return class == classReal && !isGiven && !hasString(m.Value)
	case unit:
		return class == classReal && hasString(m.Value)
	}
	return false
}

func hasString(value []api.Tree) bool {
	return len(value) > 0 && value[0].Op == opString
}

package names

import (
	"slices"

	"linkwork/api"
)

// rule returns the error of a class that is not as it must be in a sound library.
type rule = func(l *library, c api.Class) api.Errno

// rules returns what all classes must be like: each rule is asked for if all classes are as those before it say.
func rules() []rule {
	return []rule{
		(*library).baseError,
		(*library).ancestorError,
		(*library).sizeError,
		(*library).nameError,
		(*library).classError,
		(*library).prefixError,
		(*library).withinError,
		(*library).redeclareError,
		(*library).modError,
	}
}

// fault returns the first class that is not as a rule says, and its error, for the first rule for which there is one.
func (l *library) fault() (string, api.Errno) {
	for _, rule := range rules() {
		for _, name := range l.names {
			if err := rule(l, l.classes[name]); err != api.OK {
				return name, err
			}
		}
	}
	return "", api.OK
}

// errorIf returns an error if it is there.
func errorIf(there bool, err api.Errno) api.Errno {
	if there {
		return err
	}
	return api.OK
}

// baseError asks for N1.
func (l *library) baseError(c api.Class) api.Errno {
	for _, x := range c.Extends {
		switch {
		case isBuiltIn(x.Class):
			return api.ErrType
		case !l.has(x.Class):
			return api.ErrName
		case l.classes[x.Class].Kind != c.Kind:
			return api.ErrType
		}
	}
	return api.OK
}

// ancestorError asks for N2.
func (l *library) ancestorError(c api.Class) api.Errno {
	return errorIf(l.reached(c.Name, l.bases)[c.Name], api.ErrCycle)
}

func (l *library) sizeError(c api.Class) api.Errno {
	return errorIf(l.full(c.Name).isTooLarge(), api.ErrSize)
}

// nameError asks for N3.
func (l *library) nameError(c api.Class) api.Errno {
	f := l.full(c.Name)
	wrong := len(f.at) < len(f.Comps)
	for _, x := range c.Extends {
		base := l.full(x.Class)
		unknown := func(m api.Mod) bool { _, ok := base.comp(m.Name); return !ok }
		wrong = wrong || saysTwice(x.Mods) || slices.ContainsFunc(x.Mods, unknown)
	}
	for _, part := range c.Comps {
		wrong = wrong || saysTwice(part.Mods)
	}
	return errorIf(wrong, api.ErrName)
}

// classError asks for N4.
func (l *library) classError(c api.Class) api.Errno {
	unknown := func(part api.Comp) bool { return !isBuiltIn(part.Class) && !l.has(part.Class) }
	return errorIf(slices.ContainsFunc(l.full(c.Name).Comps, unknown), api.ErrName)
}

// prefixError asks for N5.
func (l *library) prefixError(c api.Class) api.Errno {
	f := l.full(c.Name)
	misfit := func(part api.Comp) bool { return !isPrefixed(f.Kind, part) }
	wrong := f.Kind == connector && len(f.Eqs)+len(f.Inits) > 0 || slices.ContainsFunc(f.Comps, misfit)
	return errorIf(wrong, api.ErrType)
}

// withinError asks for N6.
func (l *library) withinError(c api.Class) api.Errno {
	return errorIf(l.reached(c.Name, l.parts)[c.Name], api.ErrCycle)
}

// redeclareError asks for N7.
func (l *library) redeclareError(c api.Class) api.Errno {
	for _, x := range c.Extends {
		misfit := func(m api.Mod) bool { return !l.mayRedeclare(x.Class, m) }
		if slices.ContainsFunc(x.Mods, misfit) {
			return api.ErrType
		}
	}
	misfit := func(part api.Comp) bool { return !l.mayRedeclareAll(part.Class, part.Mods) }
	return errorIf(slices.ContainsFunc(l.full(c.Name).Comps, misfit), api.ErrType)
}

// modError asks for N8.
func (l *library) modError(c api.Class) api.Errno {
	misfit := func(part api.Comp) bool {
		return hasString(part.Value) || !l.mayModify(part.Class, part.Prefix, part.Mods)
	}
	return errorIf(slices.ContainsFunc(l.full(c.Name).Comps, misfit), api.ErrType)
}

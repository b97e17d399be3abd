package syntax

import "linkwork/api"

// classes reads classes up to the end of the source.
func (p *parser) classes() []api.Class {
	var list []api.Class
	for len(p.tokens) > 0 {
		list = append(list, p.class())
	}
	return list
}

func (p *parser) class() api.Class {
	c := api.Class{Kind: p.text(api.TokKey)}
	if !isClassKind(c.Kind) {
		panic(malformed{})
	}
	c.Name = p.word()
	for !p.at("equation") && !p.at("initial") && !p.at("end") {
		if p.take("extends") {
			c.Extends = append(c.Extends, p.extend())
		} else {
			c.Comps = append(c.Comps, p.comp())
		}
	}
	if p.take("equation") {
		c.Eqs = p.body(inEqs)
	}
	if p.take("initial", "equation") {
		c.Inits = p.body(inInits)
	}
	p.need("end")
	if p.word() != c.Name {
		panic(malformed{})
	}
	p.need(";")
	return c
}

// extend reads an extends clause behind its keyword.
func (p *parser) extend() api.Extend {
	x := api.Extend{Class: p.word()}
	x.Mods = p.mods()
	p.need(";")
	return x
}

func (p *parser) comp() api.Comp {
	c := api.Comp{Replaceable: p.take("replaceable")}
	for _, prefix := range prefixes() {
		if c.Prefix == "" && p.take(prefix) {
			c.Prefix = prefix
		}
	}
	c.Class = p.word()
	c.Name = p.word()
	if p.take("[") {
		c.Dims = p.exprs(maxIndices, "]")
	}
	c.Mods = p.mods()
	if p.take("=") {
		c.Value = one(p.expr())
	}
	p.need(";")
	return c
}

// mods reads modifications, if there are any.
func (p *parser) mods() []api.Mod {
	if !p.take("(") {
		return nil
	}
	list := listed(p, (*parser).mod)
	p.need(")")
	return list
}

func (p *parser) mod() api.Mod {
	if p.take("redeclare") {
		m := api.Mod{Class: p.word()}
		m.Name = p.word()
		return m
	}
	m := api.Mod{Name: p.word()}
	switch {
	case p.at("("):
		m.Mods = p.mods()
	case p.take("="):
		m.Value = one(p.value())
	default:
		panic(malformed{})
	}
	return m
}

// value reads the value of a modification.
func (p *parser) value() api.Tree {
	if p.next().Kind == api.TokString {
		return api.Tree{Op: opString, Text: p.text(api.TokString)}
	}
	return p.expr()
}

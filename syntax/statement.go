package syntax

import "linkwork/api"

// rules returns how statements are read behind the keyword that they begin with.
func rules() map[string]func(p *parser, in section) api.Stmt {
	return map[string]func(p *parser, in section) api.Stmt{
		kindConnect: (*parser).connection,
		kindFor:     (*parser).loop,
		kindIf:      (*parser).choice,
		kindWhen:    (*parser).trigger,
		kindReinit:  (*parser).reset,
	}
}

// body reads statements as far as they go.
func (p *parser) body(in section) []api.Stmt {
	var list []api.Stmt
	for !p.at("end") && !p.at("else") && !p.at("initial", "equation") {
		list = append(list, p.stmt(in))
	}
	return list
}

func (p *parser) stmt(in section) api.Stmt {
	kind := p.next().Text
	if rule := rules()[kind]; rule != nil && in.allows(kind) && p.take(kind) {
		return rule(p, in)
	}
	return p.equality(in)
}

func (p *parser) equality(in section) api.Stmt {
	var left api.Tree
	if in == inActs {
		left = p.ref()
	} else {
		left = p.from(orLevel) // an if here would be a statement
	}
	p.need("=")
	right := p.expr()
	p.need(";")
	return api.Stmt{Kind: kindEqual, Left: one(left), Right: one(right)}
}

func (p *parser) connection(section) api.Stmt {
	p.need("(")
	left := p.ref()
	p.need(",")
	right := p.ref()
	p.need(")", ";")
	return api.Stmt{Kind: kindConnect, Left: one(left), Right: one(right)}
}

func (p *parser) reset(section) api.Stmt {
	p.need("(")
	left := p.ref()
	p.need(",")
	right := p.expr()
	p.need(")", ";")
	return api.Stmt{Kind: kindReinit, Left: one(left), Right: one(right)}
}

func (p *parser) loop(in section) api.Stmt {
	s := api.Stmt{Kind: kindFor, Var: p.word()}
	p.need("in")
	s.From = one(p.expr())
	p.need(":")
	s.To = one(p.expr())
	p.need("loop")
	s.Body = p.body(in)
	p.need("end", "for", ";")
	return s
}

func (p *parser) choice(in section) api.Stmt {
	s := api.Stmt{Kind: kindIf, Cond: one(p.expr())}
	p.need("then")
	s.Body = p.body(in)
	if p.take("else") {
		s.Else = p.body(in)
	}
	p.need("end", "if", ";")
	return s
}

func (p *parser) trigger(section) api.Stmt {
	s := api.Stmt{Kind: kindWhen, Cond: one(p.expr())}
	p.need("then")
	s.Body = p.body(inActs)
	if len(s.Body) == 0 {
		panic(malformed{})
	}
	p.need("end", "when", ";")
	return s
}

func one(t api.Tree) []api.Tree {
	return []api.Tree{t}
}

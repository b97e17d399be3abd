package syntax

import "linkwork/api"

// expr reads an expression.
func (p *parser) expr() api.Tree {
	return p.from(ifLevel)
}

// from reads an expression without any operator, outside of brackets, that is weaker than a level.
func (p *parser) from(level int) api.Tree {
	switch {
	case level == restLevel:
		return p.rest()
	case level == ifLevel && p.take("if"):
		return p.branches()
	case level == notLevel && p.take("not"):
		return tree(api.Not, p.from(notLevel))
	case level == sumLevel && p.take("-"):
		return p.chain(level, tree(api.Neg, p.from(productLevel)))
	}
	return p.chain(level, p.from(level+1))
}

// chain reads what a level puts behind the first of its kids: all of them are grouped from the left.
func (p *parser) chain(level int, first api.Tree) api.Tree {
	t := first
	for op := p.infix(level); op != ""; op = p.infix(level) {
		t = tree(op, t, p.from(level+1))
		if level == comparisonLevel {
			break
		}
	}
	return t
}

// infix reads an operator of a level that stands between its kids; if there is none, its Op is empty.
func (p *parser) infix(level int) string {
	for _, between := range infixes(level) {
		if p.take(between.symbol) {
			return between.op
		}
	}
	return ""
}

// branches reads an if from its condition on.
func (p *parser) branches() api.Tree {
	cond := p.expr()
	p.need("then")
	yes := p.expr()
	p.need("else")
	return tree(api.If, cond, yes, p.expr())
}

// rest reads an expression without any operator outside of brackets.
func (p *parser) rest() api.Tree {
	switch p.next().Kind {
	case api.TokNum:
		return api.Tree{Op: api.Num, Text: p.text(api.TokNum)}
	case api.TokWord:
		return p.ref()
	case api.TokKey:
		return p.keyed()
	}
	if p.take("{") {
		return tree(opList, p.exprs(api.MaxDim, "}")...)
	}
	p.need("(")
	t := p.expr()
	p.need(")")
	return t
}

// keyed reads an expression that begins with a keyword.
func (p *parser) keyed() api.Tree {
	t := api.Tree{Op: p.text(api.TokKey)}
	if isConstant(t.Op) {
		return t
	}
	kids, refs, ok := callOf(t.Op)
	if !ok {
		panic(malformed{})
	}
	p.need("(")
	for i := range kids {
		if i > 0 {
			p.need(",")
		}
		if i < refs {
			t.Kids = append(t.Kids, p.ref())
		} else {
			t.Kids = append(t.Kids, p.expr())
		}
	}
	p.need(")")
	return t
}

// isConstant reports whether an Op is written as a keyword alone.
func isConstant(op string) bool {
	return op == api.True || op == api.False || op == api.Time
}

// exprs reads expressions, some but not too many, with commas between, and the symbol behind them.
func (p *parser) exprs(most int, end string) []api.Tree {
	list := listed(p, (*parser).expr)
	if len(list) > most {
		panic(malformed{})
	}
	p.need(end)
	return list
}

func (p *parser) ref() api.Tree {
	t := tree(opRef, p.part())
	for p.take(".") {
		t.Kids = append(t.Kids, p.part())
	}
	return t
}

func (p *parser) part() api.Tree {
	t := api.Tree{Op: opPart, Text: p.word()}
	if p.take("[") {
		t.Kids = p.exprs(maxIndices, "]")
	}
	return t
}

func tree(op string, kids ...api.Tree) api.Tree {
	return api.Tree{Op: op, Kids: kids}
}

package syntax

import "linkwork/api"

// writer has the tokens of a text, as far as it is written.
type writer struct {
	tokens []api.Token
}

// add writes a token. Behind more tokens than a source may have it makes no difference, so that these do not grow.
func (w *writer) add(kind int, text string) {
	if len(w.tokens) <= api.MaxTokens {
		w.tokens = append(w.tokens, api.Token{Kind: kind, Text: text})
	}
}

// fixed writes keywords and symbols.
func (w *writer) fixed(texts ...string) {
	for _, text := range texts {
		if 'a' <= text[0] && text[0] <= 'z' {
			w.add(api.TokKey, text)
		} else {
			w.add(api.TokSymbol, text)
		}
	}
}

func (w *writer) words(texts ...string) {
	for _, text := range texts {
		w.add(api.TokWord, text)
	}
}

// joined writes parts with a symbol between.
func joined[T any](w *writer, symbol string, parts []T, write func(w *writer, part T)) {
	for i, part := range parts {
		if i > 0 {
			w.fixed(symbol)
		}
		write(w, part)
	}
}

func (w *writer) class(c api.Class) {
	w.fixed(c.Kind)
	w.words(c.Name)
	for _, x := range c.Extends {
		w.fixed("extends")
		w.words(x.Class)
		w.mods(x.Mods)
		w.fixed(";")
	}
	for _, part := range c.Comps {
		w.comp(part)
	}
	if len(c.Eqs) > 0 {
		w.fixed("equation")
		w.body(c.Eqs)
	}
	if len(c.Inits) > 0 {
		w.fixed("initial", "equation")
		w.body(c.Inits)
	}
	w.fixed("end")
	w.words(c.Name)
	w.fixed(";")
}

func (w *writer) comp(c api.Comp) {
	if c.Replaceable {
		w.fixed("replaceable")
	}
	if c.Prefix != "" {
		w.fixed(c.Prefix)
	}
	w.words(c.Class, c.Name)
	w.indices(c.Dims)
	w.mods(c.Mods)
	if len(c.Value) > 0 {
		w.fixed("=")
		w.expr(c.Value[0])
	}
	w.fixed(";")
}

func (w *writer) mods(list []api.Mod) {
	if len(list) > 0 {
		w.fixed("(")
		joined(w, ",", list, (*writer).mod)
		w.fixed(")")
	}
}

func (w *writer) mod(m api.Mod) {
	if m.Class != "" {
		w.fixed("redeclare")
		w.words(m.Class, m.Name)
		return
	}
	w.words(m.Name)
	w.mods(m.Mods)
	if len(m.Value) > 0 {
		w.fixed("=")
		w.expr(m.Value[0])
	}
}

func (w *writer) body(list []api.Stmt) {
	for _, s := range list {
		w.stmt(s)
	}
}

func (w *writer) stmt(s api.Stmt) {
	switch s.Kind {
	case kindConnect, kindReinit:
		w.fixed(s.Kind, "(")
		w.expr(s.Left[0])
		w.fixed(",")
		w.expr(s.Right[0])
		w.fixed(")")
	case kindFor:
		w.fixed("for")
		w.words(s.Var)
		w.fixed("in")
		w.expr(s.From[0])
		w.fixed(":")
		w.expr(s.To[0])
		w.fixed("loop")
		w.body(s.Body)
		w.fixed("end", "for")
	case kindIf, kindWhen:
		w.conditional(s)
	default:
		w.from(orLevel, s.Left[0])
		w.fixed("=")
		w.expr(s.Right[0])
	}
	w.fixed(";")
}

// conditional writes an if or a when.
func (w *writer) conditional(s api.Stmt) {
	w.fixed(s.Kind)
	w.expr(s.Cond[0])
	w.fixed("then")
	w.body(s.Body)
	if len(s.Else) > 0 {
		w.fixed("else")
		w.body(s.Else)
	}
	w.fixed("end", s.Kind)
}

// expr writes an expression, or a string.
func (w *writer) expr(t api.Tree) {
	w.from(ifLevel, t)
}

// from writes an expression where none may stand whose operator is weaker than a level.
func (w *writer) from(least int, t api.Tree) {
	if level, _ := levelOf(t.Op); level < least {
		w.fixed("(")
		w.bare(t)
		w.fixed(")")
		return
	}
	w.bare(t)
}

// bare writes an expression without parentheses around it.
func (w *writer) bare(t api.Tree) {
	level, symbol := levelOf(t.Op)
	switch {
	case level == comparisonLevel:
		w.from(level+1, t.Kids[0])
		w.fixed(symbol)
		w.from(level+1, t.Kids[1])
	case symbol != "":
		w.from(level, t.Kids[0])
		w.fixed(symbol)
		w.from(level+1, t.Kids[1])
	case level == ifLevel:
		w.fixed("if")
		w.expr(t.Kids[0])
		w.fixed("then")
		w.expr(t.Kids[1])
		w.fixed("else")
		w.expr(t.Kids[2])
	case level == notLevel:
		w.fixed("not")
		w.from(level, t.Kids[0])
	case level == sumLevel:
		w.fixed("-")
		w.from(level+1, t.Kids[0])
	default:
		w.rest(t)
	}
}

// rest writes what has no operator outside of brackets.
func (w *writer) rest(t api.Tree) {
	switch t.Op {
	case api.Num:
		w.add(api.TokNum, t.Text)
	case opString:
		w.add(api.TokString, t.Text)
	case opRef:
		joined(w, ".", t.Kids, (*writer).part)
	case opList:
		w.fixed("{")
		joined(w, ",", t.Kids, (*writer).expr)
		w.fixed("}")
	case api.True, api.False, api.Time:
		w.fixed(t.Op)
	default:
		w.fixed(t.Op, "(")
		joined(w, ",", t.Kids, (*writer).expr)
		w.fixed(")")
	}
}

func (w *writer) part(t api.Tree) {
	w.words(t.Text)
	w.indices(t.Kids)
}

// indices writes expressions between brackets, if there are any.
func (w *writer) indices(list []api.Tree) {
	if len(list) > 0 {
		w.fixed("[")
		joined(w, ",", list, (*writer).expr)
		w.fixed("]")
	}
}

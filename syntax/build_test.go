package syntax_test

import (
	"reflect"
	"slices"
	"strconv"
	"strings"
	"testing"

	"linkwork/api"
	"linkwork/lex"
	"linkwork/syntax"
)

// symbols is what stands between the kids of an Op, by levels, the weakest one first.
var symbols = [][][2]string{
	{{"or", "or"}},
	{{"and", "and"}},
	{{"less", "<"}, {"atmost", "<="}, {"more", ">"}, {"atleast", ">="}, {"equal", "=="}, {"unequal", "<>"}},
	{{"add", "+"}, {"sub", "-"}},
	{{"mul", "*"}, {"div", "/"}},
}

// symbolOf returns what stands between the kids of an Op.
func symbolOf(op string) string {
	for _, level := range symbols {
		for _, s := range level {
			if s[0] == op {
				return s[1]
			}
		}
	}
	return ""
}

func node(op string, kids ...api.Tree) api.Tree {
	return api.Tree{Op: op, Kids: kids}
}

func leaf(op, text string) api.Tree {
	return api.Tree{Op: op, Text: text}
}

// ref returns a ref of words with points between.
func ref(path string) api.Tree {
	t := api.Tree{Op: "ref"}
	for _, word := range strings.Split(path, ".") {
		t.Kids = append(t.Kids, leaf("part", word))
	}
	return t
}

func one(t api.Tree) []api.Tree {
	return []api.Tree{t}
}

// sized returns an expression of so many trees, of as few levels as lists need.
func sized(n int) api.Tree {
	if n == 1 {
		return leaf("num", "1")
	}
	t := api.Tree{Op: "list"}
	for kids := min(n-1, 12); kids > 0; kids-- {
		part := (n - 1) / kids
		t.Kids = append(t.Kids, sized(part))
		n -= part
	}
	return t
}

// deep returns an expression of so many levels.
func deep(n int) api.Tree {
	t := leaf("true", "")
	for range n - 1 {
		t = node("not", t)
	}
	return t
}

// endless returns a tree that is its own kid.
func endless() api.Tree {
	t := node("not", leaf("true", ""))
	t.Kids[0] = t
	return t
}

// notation writes a tree with its Ops.
func notation(t api.Tree) string {
	var kids []string
	for _, kid := range t.Kids {
		kids = append(kids, notation(kid))
	}
	switch {
	case t.Op == "num":
		return t.Text
	case t.Op == "string":
		return strconv.Quote(t.Text)
	case t.Op == "ref":
		return strings.Join(kids, ".")
	case t.Op == "part" && len(kids) > 0:
		return t.Text + "[" + strings.Join(kids, ",") + "]"
	case t.Op == "part":
		return t.Text
	case len(kids) == 0:
		return t.Op
	}
	return t.Op + "(" + strings.Join(kids, ", ") + ")"
}

// full writes an expression with parentheses around each expression in it, where they are allowed.
func full(t api.Tree) string {
	bare := bareText(t)
	if t.Op == "string" {
		return bare
	}
	return "(" + bare + ")"
}

func bareText(t api.Tree) string {
	var kids []string
	for _, kid := range t.Kids {
		kids = append(kids, full(kid))
	}
	switch t.Op {
	case "num", "string":
		return tokenText(api.Token{Kind: map[string]int{"num": api.TokNum, "string": api.TokString}[t.Op], Text: t.Text})
	case "ref":
		var parts []string
		for _, part := range t.Kids {
			parts = append(parts, bareText(part))
		}
		return strings.Join(parts, ".")
	case "part":
		return t.Text + bracketed(t.Kids)
	case "true", "false", "time":
		return t.Op
	case "der", "pre":
		return t.Op + "(" + bareText(t.Kids[0]) + ")"
	case "size":
		return "size(" + bareText(t.Kids[0]) + "," + kids[1] + ")"
	case "sum", "sample", "initial":
		return t.Op + "(" + strings.Join(kids, ",") + ")"
	case "list":
		return "{" + strings.Join(kids, ",") + "}"
	case "neg":
		return "-" + kids[0]
	case "not":
		return "not " + kids[0]
	case "if":
		return "if " + kids[0] + " then " + kids[1] + " else " + kids[2]
	}
	return kids[0] + " " + symbolOf(t.Op) + " " + kids[1]
}

func bracketed(list []api.Tree) string {
	var texts []string
	for _, t := range list {
		texts = append(texts, full(t))
	}
	if len(texts) == 0 {
		return ""
	}
	return "[" + strings.Join(texts, ",") + "]"
}

// fullClass writes a class with such expressions, and with sections and elses that have no statement.
func fullClass(c api.Class) string {
	text := c.Kind + " " + c.Name + "\n"
	for _, x := range c.Extends {
		text += "extends " + x.Class + fullMods(x.Mods) + ";\n"
	}
	for _, part := range c.Comps {
		if part.Replaceable {
			text += "replaceable "
		}
		text += part.Prefix + " " + part.Class + " " + part.Name + bracketed(part.Dims) + fullMods(part.Mods)
		if len(part.Value) > 0 {
			text += " = " + full(part.Value[0])
		}
		text += ";\n"
	}
	return text + "equation " + fullBody(c.Eqs) + "initial equation " + fullBody(c.Inits) + "end " + c.Name + ";\n"
}

func fullMods(list []api.Mod) string {
	var texts []string
	for _, m := range list {
		text := m.Name + fullMods(m.Mods)
		if m.Class != "" {
			text = "redeclare " + m.Class + " " + m.Name
		}
		if len(m.Value) > 0 {
			text += " = " + full(m.Value[0])
		}
		texts = append(texts, text)
	}
	if len(texts) == 0 {
		return ""
	}
	return "(" + strings.Join(texts, ", ") + ")"
}

func fullBody(list []api.Stmt) string {
	text := ""
	for _, s := range list {
		switch s.Kind {
		case "equal":
			left := full(s.Left[0])
			if s.Left[0].Op == "ref" { // which it may have to be
				left = bareText(s.Left[0])
			}
			text += left + " = " + full(s.Right[0])
		case "connect":
			text += "connect(" + bareText(s.Left[0]) + ", " + bareText(s.Right[0]) + ")"
		case "reinit":
			text += "reinit(" + bareText(s.Left[0]) + ", " + full(s.Right[0]) + ")"
		case "for":
			text += "for " + s.Var + " in " + full(s.From[0]) + ":" + full(s.To[0]) + " loop " + fullBody(s.Body) + "end for"
		case "if":
			text += "if " + full(s.Cond[0]) + " then " + fullBody(s.Body) + "else " + fullBody(s.Else) + "end if"
		case "when":
			text += "when " + full(s.Cond[0]) + " then " + fullBody(s.Body) + "end when"
		}
		text += ";\n"
	}
	return text
}

func tokenText(token api.Token) string {
	text, _ := lex.Text([]api.Token{token})
	return text
}

func scan(t *testing.T, text string) []api.Token {
	t.Helper()
	tokens, _, err := lex.Scan(text)
	if err != api.OK {
		t.Fatalf("Scan(%q): %d", text, err)
	}
	return tokens
}

func parse(t *testing.T, text string) []api.Class {
	t.Helper()
	list, err := syntax.Parse(text)
	if err != api.OK {
		t.Fatalf("Parse(%q): %d", text, err)
	}
	return list
}

func write(t *testing.T, list []api.Class) string {
	t.Helper()
	text, err := syntax.Text(list)
	if err != api.OK {
		t.Fatalf("Text(%v): %d", list, err)
	}
	return text
}

func same(a, b []api.Class) bool {
	return len(a) == 0 && len(b) == 0 || reflect.DeepEqual(a, b)
}

// source is a row of numbers that look random and are the same in every run.
type source uint64

func (s *source) below(n int) int {
	*s = *s*6364136223846793005 + 1442695040888963407
	return int(uint64(*s) >> 33 % uint64(n))
}

func pick[T any](s *source, list ...T) T {
	return list[s.below(len(list))]
}

// some returns up to most parts.
func some[T any](s *source, least, most int, part func() T) []T {
	var list []T
	for range least + s.below(most-least+1) {
		list = append(list, part())
	}
	return list
}

func (s *source) word() string {
	return pick(s, "x", "y", "z1", "Real", "A_", "start", "unit", "Ends", "abcdefghijklmnopqrst")
}

func (s *source) number() api.Tree {
	return leaf("num", pick(s, "0", "1", "2", "1/2", "3/20", "999999999999999", "1/32768"))
}

func (s *source) ref(depth int) api.Tree {
	return node("ref", some(s, 1, 1+s.below(3), func() api.Tree {
		part := leaf("part", s.word())
		if depth > 0 && s.below(3) == 0 {
			part.Kids = some(s, 1, 2, func() api.Tree { return s.tree(depth - 1) })
		}
		return part
	})...)
}

// tree returns the tree of an expression.
func (s *source) tree(depth int) api.Tree {
	if depth == 0 {
		switch s.below(4) {
		case 0:
			return s.ref(0)
		case 1:
			return s.number()
		}
		return leaf(pick(s, "true", "false", "time", "initial"), "")
	}
	kid := func() api.Tree { return s.tree(max(0, depth-1-s.below(2))) }
	switch s.below(12) {
	case 0:
		return s.ref(depth)
	case 1:
		return node(pick(s, "der", "pre"), s.ref(depth-1))
	case 2:
		return node("size", s.ref(depth-1), kid())
	case 3:
		return node("list", some(s, 1, 3, kid)...)
	case 4:
		return pick(s, node("sum", kid()), node("sample", kid(), kid()))
	case 5:
		return node("if", kid(), kid(), kid())
	case 6, 7:
		return node(pick(s, "neg", "not"), kid())
	}
	op := pick(s, pick(s, symbols...)...)[0]
	return node(op, kid(), kid())
}

// expr returns the tree of an expression that is not too large.
func (s *source) expr(depth int) api.Tree {
	for {
		if t := s.tree(depth); count(t) <= 200 {
			return t
		}
	}
}

func count(t api.Tree) int {
	n := 1
	for _, kid := range t.Kids {
		n += count(kid)
	}
	return n
}

func (s *source) mods(depth int) []api.Mod {
	return some(s, 0, 2, func() api.Mod {
		m := api.Mod{Name: s.word()}
		switch s.below(4) {
		case 0:
			m.Class = s.word()
		case 1:
			m.Value = one(leaf("string", pick(s, "", "m.s-1", "a // b", "end")))
		case 2:
			if depth > 0 {
				m.Mods = s.mods(depth - 1)
			}
		}
		if m.Class == "" && len(m.Value)+len(m.Mods) == 0 {
			m.Value = one(s.expr(s.below(3)))
		}
		return m
	})
}

func (s *source) comp() api.Comp {
	c := api.Comp{
		Prefix:      pick(s, "", "", "parameter", "discrete", "input", "flow"),
		Replaceable: s.below(4) == 0,
		Class:       s.word(),
		Name:        s.word(),
		Mods:        s.mods(3),
	}
	if s.below(3) == 0 {
		c.Dims = some(s, 1, 2, func() api.Tree { return s.expr(s.below(3)) })
	}
	if s.below(3) == 0 {
		c.Value = one(s.expr(s.below(4)))
	}
	return c
}

// stmt returns a statement; within limits its kind is one of those given.
func (s *source) stmt(depth int, kinds ...string) api.Stmt {
	x := api.Stmt{Kind: pick(s, kinds...)}
	if depth == 0 && slices.Contains([]string{"for", "if", "when"}, x.Kind) {
		x.Kind = "equal"
	}
	expr := func() []api.Tree { return one(s.expr(s.below(4))) }
	body := func() []api.Stmt {
		return some(s, 0, 2, func() api.Stmt { return s.stmt(depth-1, kinds...) })
	}
	switch x.Kind {
	case "equal":
		x.Left, x.Right = expr(), expr()
	case "connect":
		x.Left, x.Right = one(s.ref(2)), one(s.ref(2))
	case "for":
		x.Var, x.From, x.To, x.Body = s.word(), expr(), expr(), body()
	case "if":
		x.Cond, x.Body, x.Else = expr(), body(), body()
	case "when":
		x.Cond = expr()
		x.Body = some(s, 1, 2, func() api.Stmt {
			return api.Stmt{Kind: pick(s, "equal", "reinit"), Left: one(s.ref(2)), Right: expr()}
		})
	}
	return x
}

func (s *source) line(depth int) api.Stmt {
	return s.stmt(depth, "equal", "connect", "for", "if", "when")
}

func (s *source) class() api.Class {
	return api.Class{
		Kind:    pick(s, "model", "connector"),
		Name:    s.word(),
		Extends: some(s, 0, 2, func() api.Extend { return api.Extend{Class: s.word(), Mods: s.mods(2)} }),
		Comps:   some(s, 0, 3, s.comp),
		Eqs:     some(s, 0, 3, func() api.Stmt { return s.line(3) }),
		Inits:   some(s, 0, 2, func() api.Stmt { return s.stmt(2, "equal", "for", "if") }),
	}
}

// classes returns classes whose text, also with parentheses, is not too long for a source.
func (s *source) classes(least, most int) []api.Class {
	for {
		list := some(s, least, most, s.class)
		text := ""
		for _, c := range list {
			text += fullClass(c)
		}
		if _, _, err := lex.Scan(text); err == api.OK && len(text) < api.MaxText/2 {
			return list
		}
	}
}

func sorted(list []string) []string {
	list = slices.Clone(list)
	slices.Sort(list)
	return list
}

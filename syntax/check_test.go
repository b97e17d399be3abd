package syntax_test

import (
	"reflect"
	"strings"
	"testing"

	"linkwork/api"
	"linkwork/lex"
	"linkwork/syntax"
)

// whole is a class with all that a class may have.
const whole = `
model Whole
  extends Base(x = 1, y(z = a + b, unit = "m"), redeclare C c);
  extends Other;
  replaceable parameter A p[2, n](start = 1, q(r(s = true))) = {1, 2};
  Real x;
equation
  x + 1 = -a;
  connect(a, b.c);
  for i in 1:n loop
    x[i] = i;
    if i < 2 then
      a = b;
    end if;
  end for;
  if c then
    connect(a, b);
  else
    a = b;
    when x < 1 then
      m = 1;
    end when;
  end if;
  when a > b then
    n = m;
    reinit(x, x + 1);
  end when;
initial equation
  x = 0;
  for i in 1:2 loop
    if c then
      a = b;
    else
      b = a;
    end if;
  end for;
end Whole;
`

// places are the parts of a class.
type places struct {
	trees []*[]api.Tree
	kinds []string // what the lists of trees are
	mods  []*[]api.Mod
	depth []int // of the lists of mods
	stmts []*api.Stmt
	level []int // in how many bodies the statements are
	acts  []bool
	words []*string
}

func placesOf(c *api.Class) *places {
	p := &places{words: []*string{&c.Name}}
	for i := range c.Extends {
		p.words = append(p.words, &c.Extends[i].Class)
		p.addMods(&c.Extends[i].Mods, 1)
	}
	for i := range c.Comps {
		part := &c.Comps[i]
		p.words = append(p.words, &part.Class, &part.Name)
		p.addTrees("dims", &part.Dims)
		p.addTrees("perhaps", &part.Value)
		p.addMods(&part.Mods, 1)
	}
	p.addStmts(c.Eqs, 0, false)
	p.addStmts(c.Inits, 0, false)
	return p
}

func (p *places) addTrees(kind string, list *[]api.Tree) {
	p.trees = append(p.trees, list)
	p.kinds = append(p.kinds, kind)
}

// put puts a tree in the place of the first one of a list.
func (p *places) put(i int, tree api.Tree) {
	list := p.trees[i]
	*list = append(one(tree), (*list)[min(1, len(*list)):]...)
}

func (p *places) addMods(list *[]api.Mod, depth int) {
	p.mods = append(p.mods, list)
	p.depth = append(p.depth, depth)
	for i := range *list {
		m := &(*list)[i]
		p.words = append(p.words, &m.Name)
		if m.Class != "" {
			p.words = append(p.words, &m.Class)
		}
		if len(m.Value) > 0 {
			p.addTrees("value", &m.Value)
		}
		if len(m.Mods) > 0 {
			p.addMods(&m.Mods, depth+1)
		}
	}
}

func (p *places) addStmts(list []api.Stmt, level int, acts bool) {
	for i := range list {
		s := &list[i]
		p.stmts = append(p.stmts, s)
		p.level = append(p.level, level)
		p.acts = append(p.acts, acts)
		if s.Var != "" {
			p.words = append(p.words, &s.Var)
		}
		for j, trees := range []*[]api.Tree{&s.Left, &s.Right, &s.From, &s.To, &s.Cond} {
			switch {
			case len(*trees) == 0:
			case s.Kind == "connect", j == 0 && acts:
				p.addTrees("ref", trees)
			default:
				p.addTrees("one", trees)
			}
		}
		p.addStmts(s.Body, level+1, s.Kind == "when")
		p.addStmts(s.Else, level+1, false)
	}
}

// refused checks that a class has an error, with Check and with Text.
func refused(t *testing.T, what string, c api.Class, want api.Errno) {
	t.Helper()
	if err := syntax.Check(c); err != want {
		t.Errorf("%s: Check %d, want %d", what, err, want)
	}
	text, err := syntax.Text([]api.Class{{Kind: "model", Name: "A"}, c})
	if err != want || text != "" && want != api.OK {
		t.Errorf("%s: Text %q, %d, want %d", what, text, err, want)
	}
}

// eachPlace calls a function for each place of its own copy of a class.
func eachPlace(t *testing.T, source string, count func(p *places) int, change func(c *api.Class, p *places, i int)) {
	t.Helper()
	n := 1
	for i := 0; i < n; i++ {
		c := parse(t, source)[0]
		p := placesOf(&c)
		n = count(p)
		change(&c, p, i)
	}
	if n < 3 {
		t.Errorf("%d places", n)
	}
}

func TestCheckValid(t *testing.T) {
	c := parse(t, whole)[0]
	for _, c := range []api.Class{
		c, {Kind: "model", Name: "A"}, {Kind: "connector", Name: "A"}, {Kind: "connector", Name: "Real", Eqs: c.Eqs},
		{Kind: "model", Name: "A", Extends: []api.Extend{}, Comps: []api.Comp{{Class: "A", Name: "a", Dims: []api.Tree{}, Mods: []api.Mod{}, Value: []api.Tree{}}},
			Eqs: []api.Stmt{{Kind: "equal", Left: number("1"), Right: number("2"), From: []api.Tree{}, Body: []api.Stmt{}}}, Inits: []api.Stmt{}},
	} {
		before, _ := syntax.Text([]api.Class{c})
		refused(t, c.Name, c, api.OK)
		if after, _ := syntax.Text([]api.Class{c}); after != before {
			t.Errorf("%s: the argument has changed", c.Name)
		}
	}
}

func TestCheckTrees(t *testing.T) {
	count := func(p *places) int { return len(p.trees) }
	wrong := []api.Tree{{}, leaf("part", "a"), leaf("num", "-1"), node("add", leaf("num", "1")), node("not", leaf("string", "a")), leaf("string", "é"),
		leaf("string", strings.Repeat("a", 41)), {Op: "string", Text: "a", Kids: number("1")}, node("neg", node("ref"))}
	for _, tree := range append(wrong, leaf("string", "a")) {
		eachPlace(t, whole, count, func(c *api.Class, p *places, i int) {
			if p.kinds[i] != "value" || notation(tree) != `"a"` {
				p.put(i, tree)
				refused(t, p.kinds[i]+" "+notation(tree), *c, api.ErrForm)
			}
		})
	}
	for _, tree := range []api.Tree{leaf("num", "1"), node("der", ref("a")), node("neg", ref("a")), ref("a"), ref("a.b"), sized(200), deep(24)} {
		eachPlace(t, whole, count, func(c *api.Class, p *places, i int) {
			want := api.OK
			if p.kinds[i] == "ref" && tree.Op != "ref" {
				want = api.ErrForm
			}
			p.put(i, tree)
			refused(t, p.kinds[i]+" "+notation(tree), *c, want)
		})
	}
	for _, tree := range []api.Tree{sized(201), deep(25), endless(), ref("x" + strings.Repeat(".x", 199)), node("nothing", deep(24))} {
		eachPlace(t, whole, count, func(c *api.Class, p *places, i int) {
			p.put(i, tree)
			refused(t, p.kinds[i]+" that is too large", *c, api.ErrSize)
			c.Kind = ""
			refused(t, p.kinds[i]+" that is too large", *c, api.ErrSize)
		})
	}
}

func TestCheckListsOfTrees(t *testing.T) {
	count := func(p *places) int { return len(p.trees) }
	for n, fits := range []string{"dims perhaps", "dims perhaps value one ref", "dims"} {
		eachPlace(t, whole, count, func(c *api.Class, p *places, i int) {
			want := api.ErrForm
			if strings.Contains(fits, p.kinds[i]) {
				want = api.OK
			}
			list := []api.Tree{ref("a"), ref("b")}[:n]
			*p.trees[i] = list
			refused(t, p.kinds[i], *c, want)
		})
	}
	eachPlace(t, whole, count, func(c *api.Class, p *places, i int) {
		*p.trees[i] = []api.Tree{ref("a"), ref("b"), ref("c")}
		refused(t, "three "+p.kinds[i], *c, api.ErrForm)
		*p.trees[i] = []api.Tree{ref("a"), ref("b"), ref("c"), sized(201)}
		refused(t, "four "+p.kinds[i], *c, api.ErrSize)
	})
}

func TestCheckWords(t *testing.T) {
	for _, word := range []string{"", "1", "a.b", "a b", " a", "end", "model", "é", `"a"`, "=", strings.Repeat("a", 21), strings.Repeat("a", 9000)} {
		eachPlace(t, whole, func(p *places) int { return len(p.words) }, func(c *api.Class, p *places, i int) {
			*p.words[i] = word
			refused(t, "a word", *c, api.ErrForm)
		})
	}
	for _, c := range []api.Class{{}, {Name: "A"}, {Kind: "class", Name: "A"}, {Kind: "Model", Name: "A"}, {Kind: "model"}, {Kind: "for", Name: "A"}} {
		refused(t, c.Kind, c, api.ErrForm)
	}
	for prefix, want := range map[string]api.Errno{"": api.OK, "parameter": api.OK, "discrete": api.OK, "input": api.OK, "flow": api.OK,
		"constant": api.ErrForm, "replaceable": api.ErrForm, "model": api.ErrForm, "a": api.ErrForm, "Flow": api.ErrForm} {
		c := api.Comp{Prefix: prefix, Class: "Real", Name: "x"}
		refused(t, prefix, api.Class{Kind: "model", Name: "A", Comps: []api.Comp{c}}, want)
	}
}

func TestCheckMods(t *testing.T) {
	value, list := number("1"), []api.Mod{{Name: "y", Value: number("1")}}
	for _, c := range []struct {
		mod  api.Mod
		want api.Errno
	}{
		{api.Mod{Name: "x", Value: value}, api.OK},
		{api.Mod{Name: "x", Mods: list}, api.OK},
		{api.Mod{Name: "x", Class: "C"}, api.OK},
		{api.Mod{Name: "x", Value: value, Mods: []api.Mod{}}, api.OK},
		{api.Mod{}, api.ErrForm},
		{api.Mod{Name: "x"}, api.ErrForm},
		{api.Mod{Value: value}, api.ErrForm},
		{api.Mod{Class: "C"}, api.ErrForm},
		{api.Mod{Name: "x", Value: value, Mods: list}, api.ErrForm},
		{api.Mod{Name: "x", Value: value, Class: "C"}, api.ErrForm},
		{api.Mod{Name: "x", Mods: list, Class: "C"}, api.ErrForm},
		{api.Mod{Name: "x", Value: []api.Tree{value[0], value[0]}}, api.ErrForm},
		{api.Mod{Name: "x", Mods: []api.Mod{{Name: "y"}}}, api.ErrForm},
		{api.Mod{Name: "x", Mods: []api.Mod{list[0], {}}}, api.ErrForm},
	} {
		eachPlace(t, whole, func(p *places) int { return len(p.mods) }, func(class *api.Class, p *places, i int) {
			*p.mods[i] = append(*p.mods[i], c.mod)
			refused(t, "a mod", *class, c.want)
		})
	}
}

func TestCheckStatements(t *testing.T) {
	count := func(p *places) int { return len(p.stmts) }
	uses := map[string]string{"equal": "LR", "connect": "LR", "reinit": "LR", "for": "VFTB", "if": "CBE", "when": "CB"}
	for field, put := range map[string]func(s *api.Stmt){
		"L": func(s *api.Stmt) { s.Left = one(ref("a")) },
		"R": func(s *api.Stmt) { s.Right = one(ref("a")) },
		"V": func(s *api.Stmt) { s.Var = "a" },
		"F": func(s *api.Stmt) { s.From = one(ref("a")) },
		"T": func(s *api.Stmt) { s.To = one(ref("a")) },
		"C": func(s *api.Stmt) { s.Cond = one(ref("a")) },
		"B": func(s *api.Stmt) { s.Body = []api.Stmt{equal(ref("a"), ref("b"))} },
		"E": func(s *api.Stmt) { s.Else = []api.Stmt{equal(ref("a"), ref("b"))} },
	} {
		eachPlace(t, whole, count, func(c *api.Class, p *places, i int) {
			s := p.stmts[i]
			want := api.ErrForm
			if strings.Contains(uses[s.Kind], field) {
				want = api.OK
			}
			put(s)
			refused(t, s.Kind+" "+field, *c, want)
		})
	}
	for _, kind := range []string{"", "else", "assign", "Equal", "="} {
		eachPlace(t, whole, count, func(c *api.Class, p *places, i int) {
			p.stmts[i].Kind = kind
			refused(t, kind, *c, api.ErrForm)
		})
	}
}

// Statements of each kind may be just where the chapter says.
func TestCheckKindsOfStatements(t *testing.T) {
	a := one(ref("a"))
	act := []api.Stmt{{Kind: "reinit", Left: a, Right: a}}
	for _, s := range []api.Stmt{
		{Kind: "equal", Left: a, Right: a}, {Kind: "equal", Left: number("1"), Right: a}, {Kind: "connect", Left: a, Right: a}, act[0],
		{Kind: "for", Var: "i", From: a, To: a}, {Kind: "if", Cond: a}, {Kind: "when", Cond: a, Body: act}, {Kind: "when", Cond: a},
	} {
		inAct := s.Kind == "reinit" || s.Kind == "equal" && s.Left[0].Op == "ref"
		inInit := s.Kind == "equal" || s.Kind == "for" || s.Kind == "if"
		inEq := inInit || s.Kind == "connect" || s.Kind == "when" && len(s.Body) > 0
		loop := api.Stmt{Kind: "for", Var: "i", From: a, To: a, Body: []api.Stmt{s}}
		for i, c := range []struct {
			class api.Class
			fits  bool
		}{
			{api.Class{Eqs: []api.Stmt{s}}, inEq},
			{api.Class{Eqs: []api.Stmt{loop}}, inEq},
			{api.Class{Eqs: []api.Stmt{{Kind: "if", Cond: a, Body: []api.Stmt{loop}}}}, inEq},
			{api.Class{Eqs: []api.Stmt{{Kind: "if", Cond: a, Else: []api.Stmt{s}}}}, inEq},
			{api.Class{Inits: []api.Stmt{s}}, inInit},
			{api.Class{Inits: []api.Stmt{loop}}, inInit},
			{api.Class{Inits: []api.Stmt{{Kind: "if", Cond: a, Body: []api.Stmt{s}}}}, inInit},
			{api.Class{Inits: []api.Stmt{{Kind: "if", Cond: a, Else: []api.Stmt{loop}}}}, inInit},
			{api.Class{Eqs: []api.Stmt{{Kind: "when", Cond: a, Body: []api.Stmt{s}}}}, inAct},
			{api.Class{Eqs: []api.Stmt{{Kind: "when", Cond: a, Body: append(act, s)}}}, inAct},
		} {
			c.class.Kind, c.class.Name = "model", "A"
			want := api.ErrForm
			if c.fits {
				want = api.OK
			}
			refused(t, s.Kind+" "+string(rune('0'+i)), c.class, want)
		}
		_, err := syntax.Line(s)
		if (err == api.OK) != inEq || err != api.OK && err != api.ErrForm {
			t.Errorf("Line of %s: %d", s.Kind, err)
		}
	}
}

func repeated[T any](part T, n int) []T {
	var list []T
	for range n {
		list = append(list, part)
	}
	return list
}

func TestCheckCounts(t *testing.T) {
	is := equal(ref("a"), ref("b"))
	act := api.Stmt{Kind: "when", Cond: one(ref("a"))}
	mod := api.Mod{Name: "x", Value: number("1")}
	for n, want := range map[int]api.Errno{40: api.OK, 41: api.ErrSize, 400: api.ErrSize} {
		for i, c := range []api.Class{
			{Extends: repeated(api.Extend{Class: "B"}, n)},
			{Comps: repeated(api.Comp{Class: "B", Name: "b"}, n)},
			{Eqs: repeated(is, n)},
			{Inits: repeated(is, n)},
			{Extends: []api.Extend{{Class: "B"}, {Class: "B", Mods: repeated(mod, n)}}},
			{Comps: []api.Comp{{Class: "B", Name: "b", Mods: repeated(mod, n)}}},
			{Comps: []api.Comp{{Class: "B", Name: "b", Mods: []api.Mod{{Name: "x", Mods: repeated(mod, n)}}}}},
			{Eqs: []api.Stmt{{Kind: "for", Var: "i", From: number("1"), To: number("1"), Body: repeated(is, n)}}},
			{Eqs: []api.Stmt{is, {Kind: "if", Cond: act.Cond, Else: repeated(is, n)}}},
			{Inits: []api.Stmt{{Kind: "if", Cond: act.Cond, Body: repeated(is, n)}}},
			{Eqs: []api.Stmt{{Kind: "when", Cond: act.Cond, Body: repeated(is, n)}}},
		} {
			c.Kind, c.Name = "model", "A"
			if err := syntax.Check(c); err != want {
				t.Errorf("%d of list %d: %d, want %d", n, i, err, want)
			}
			c.Name = "1"
			if err := syntax.Check(c); err != max(want, api.ErrForm) {
				t.Errorf("%d of list %d, malformed: %d", n, i, err)
			}
		}
	}
}

// nestedMods returns modifications so many levels deep.
func nestedMods(depth int) []api.Mod {
	list := []api.Mod{{Name: "x", Value: number("1")}}
	for range depth - 1 {
		list = []api.Mod{{Name: "y", Class: "C"}, {Name: "x", Mods: list}}
	}
	return list
}

// nestedBodies returns statements within so many bodies; the innermost is that of a statement given.
func nestedBodies(depth int, inner api.Stmt) []api.Stmt {
	list := []api.Stmt{inner}
	for i := range depth - 1 {
		a := one(ref("a"))
		switch i % 3 {
		case 0:
			list = []api.Stmt{{Kind: "for", Var: "i", From: a, To: a, Body: list}}
		case 1:
			list = []api.Stmt{equal(ref("a"), ref("b")), {Kind: "if", Cond: a, Body: list}}
		default:
			list = []api.Stmt{{Kind: "if", Cond: a, Else: list}}
		}
	}
	return list
}

func TestCheckNested(t *testing.T) {
	a := one(ref("a"))
	is := []api.Stmt{equal(ref("a"), ref("b"))}
	for depth, want := range map[int]api.Errno{1: api.OK, 5: api.OK, 6: api.OK, 7: api.ErrSize, 8: api.ErrSize, 50: api.ErrSize} {
		mods := nestedMods(depth)
		refused(t, "mods", api.Class{Kind: "model", Name: "A", Extends: []api.Extend{{Class: "B", Mods: mods}}}, want)
		refused(t, "mods", api.Class{Kind: "model", Name: "A", Comps: []api.Comp{{Class: "B", Name: "b", Mods: mods}}}, want)
		for _, inner := range []api.Stmt{
			{Kind: "for", Var: "i", From: a, To: a, Body: is}, {Kind: "if", Cond: a, Body: is}, {Kind: "if", Cond: a, Else: is}, {Kind: "when", Cond: a, Body: is},
			{Kind: "for", Var: "i", From: a, To: a}, {Kind: "if", Cond: a}, // a body without a statement
		} {
			bodies := nestedBodies(depth, inner)
			refused(t, "bodies", api.Class{Kind: "model", Name: "A", Eqs: bodies}, want)
			if inner.Kind != "when" {
				refused(t, "bodies", api.Class{Kind: "model", Name: "A", Inits: bodies}, want)
			}
			if _, err := syntax.Line(bodies[len(bodies)-1]); err != want {
				t.Errorf("Line of bodies: %d, want %d", err, want)
			}
			source := "model A equation " + fullBody(bodies) + " end A;"
			if list, err := syntax.Parse(source); err != want || (len(list) == 0) != (want != api.OK) {
				t.Errorf("Parse(%s): %d, want %d", source, err, want)
			}
		}
		source := "model A B b" + fullMods(mods) + "; end A;"
		if list, err := syntax.Parse(source); err != want || (len(list) == 0) != (want != api.OK) {
			t.Errorf("Parse(%s): %d, want %d", source, err, want)
		}
	}
	for _, inner := range []api.Stmt{is[0], {Kind: "connect", Left: a, Right: a}} { // these have no body
		refused(t, inner.Kind, api.Class{Kind: "model", Name: "A", Eqs: nestedBodies(7, inner)}, api.OK)
		refused(t, inner.Kind, api.Class{Kind: "model", Name: "A", Eqs: nestedBodies(8, inner)}, api.ErrSize)
	}
}

// What leads back to itself is too much.
func TestCheckEndless(t *testing.T) {
	mods := []api.Mod{{Name: "x", Value: number("1")}, {Name: "y"}}
	mods[1].Mods = mods
	body := []api.Stmt{equal(ref("a"), ref("b")), {Kind: "if", Cond: one(ref("a"))}}
	body[1].Body = body
	other := []api.Stmt{{Kind: "equal"}}
	other[0].Else = other
	for i, c := range []api.Class{{Extends: []api.Extend{{Class: "A", Mods: mods}}}, {Comps: []api.Comp{{Mods: mods}}}, {Eqs: body}, {Inits: body}, {Eqs: other}} {
		if err := syntax.Check(c); err != api.ErrSize {
			t.Errorf("%d: %d", i, err)
		}
	}
	for _, list := range [][]api.Stmt{body, other} {
		if _, err := syntax.Line(list[len(list)-1]); err != api.ErrSize {
			t.Errorf("Line: %d", err)
		}
	}
}

func TestTextErrors(t *testing.T) {
	fine, bad := api.Class{Kind: "model", Name: "A"}, api.Class{Kind: "model", Name: "1"}
	large := api.Class{Kind: "model", Name: "A", Comps: repeated(api.Comp{Class: "B", Name: "b"}, 41)}
	worst := api.Class{Kind: "model", Name: "1", Comps: large.Comps}
	tokens := api.Class{Kind: "model", Name: "A", Extends: []api.Extend{{Class: "B"}}, Eqs: repeated(equal(leaf("num", "1"), sized(13)), 40)}
	words := api.Class{Kind: "model", Name: "A", Comps: repeated(api.Comp{Class: strings.Repeat("a", 20), Name: strings.Repeat("b", 20)}, 40)}
	for i, c := range []struct {
		list []api.Class
		want api.Errno
	}{
		{nil, api.OK},
		{repeated(fine, 40), api.OK},
		{repeated(fine, 41), api.ErrSize},
		{append(repeated(fine, 41), bad), api.ErrForm},
		{[]api.Class{fine, bad}, api.ErrForm},
		{[]api.Class{bad, large}, api.ErrForm},
		{[]api.Class{large, bad}, api.ErrSize},
		{[]api.Class{worst}, api.ErrSize},
		{repeated(tokens, 1), api.OK},
		{repeated(tokens, 2), api.ErrSize},
		{append(repeated(tokens, 2), bad), api.ErrForm},
		{repeated(words, 4), api.OK},
		{repeated(words, 5), api.ErrSize},
		{append(repeated(words, 5), bad), api.ErrForm},
	} {
		if text, err := syntax.Text(c.list); err != c.want || err != api.OK && text != "" {
			t.Errorf("%d: %d bytes, %d, want %d", i, len(text), err, c.want)
		}
	}
}

func TestTextLimits(t *testing.T) {
	model := func(eqs ...api.Stmt) []api.Class {
		return []api.Class{{Kind: "model", Name: "A", Eqs: eqs}}
	}
	long := func(words, letters int) api.Tree { // a ref of so many words of so many letters
		return ref(strings.Repeat(strings.Repeat("b", letters)+".", words-1) + strings.Repeat("b", letters))
	}
	for _, c := range []struct {
		list          []api.Class
		tokens, bytes int
	}{
		{model(append(repeated(equal(ref("a"), long(98, 1)), 10), equal(ref("a"), ref("b")))...), 1990, 0},
		{model(append(repeated(equal(ref("a"), long(98, 1)), 10), equal(ref("a.a"), long(5, 1)))...), 2000, 0},
		{model(append(repeated(equal(ref("a"), long(98, 1)), 10), equal(leaf("num", "1"), node("add", node("neg", ref("a")), long(5, 1))))...), 2001, 0},
		{model(append(repeated(equal(ref("a"), long(98, 1)), 10), equal(ref("a"), long(199, 1)))...), 2386, 0},
		{model(append(repeated(equal(ref("a"), long(50, 20)), 6), equal(ref("a"), long(45, 20)))...), 0, 7987},
		{model(append(repeated(equal(ref("a"), long(50, 20)), 6), equal(ref("abcdefghijklmn"), long(45, 20)))...), 0, 8000},
		{model(append(repeated(equal(ref("a"), long(50, 20)), 6), equal(ref("abcdefghijklmno"), long(45, 20)))...), 0, 8001},
	} {
		text, err := syntax.Text(c.list)
		if c.tokens > 2000 || c.bytes > 8000 {
			if text != "" || err != api.ErrSize {
				t.Errorf("%d tokens, %d bytes: %d", c.tokens, c.bytes, err)
			}
			continue
		}
		if err != api.OK || c.tokens > 0 && len(scan(t, text)) != c.tokens || c.bytes > 0 && len(text) != c.bytes {
			t.Errorf("%d tokens, %d bytes: %d, %d, %d", c.tokens, c.bytes, len(scan(t, text)), len(text), err)
		}
	}
}

func TestLineErrors(t *testing.T) {
	is := equal(ref("a"), sized(170))
	loop := api.Stmt{Kind: "for", Var: "i", From: number("1"), To: number("2"), Body: repeated(is, 4)}
	if _, err := syntax.Line(loop); err != api.OK {
		t.Errorf("a long statement: %d", err)
	}
	loop.Body = repeated(is, 40)
	if text, err := syntax.Line(loop); text != "" || err != api.ErrSize {
		t.Errorf("a statement that is too long: %q, %d", text, err)
	}
	loop.Body = repeated(is, 41)
	loop.Var = "1"
	if text, err := syntax.Line(loop); text != "" || err != api.ErrSize {
		t.Errorf("a statement with too much, malformed: %q, %d", text, err)
	}
	loop.Body = repeated(is, 40)
	if text, err := syntax.Line(loop); text != "" || err != api.ErrForm {
		t.Errorf("a statement that is too long, malformed: %q, %d", text, err)
	}
	for _, s := range []api.Stmt{{}, {Kind: "equal"}, equal(ref("a"), leaf("string", "a")), {Kind: "reinit", Left: one(ref("a")), Right: number("1")}} {
		if text, err := syntax.Line(s); text != "" || err != api.ErrForm {
			t.Errorf("%+v: %q, %d", s, text, err)
		}
	}
	if text, err := syntax.Line(equal(ref("a"), sized(201))); text != "" || err != api.ErrSize {
		t.Errorf("a tree that is too large: %q, %d", text, err)
	}
}

func TestParseLimits(t *testing.T) {
	class := func(text string) string { return "model A " + text + " end A; " }
	for _, c := range []struct {
		text string
		want api.Errno
	}{
		{strings.Repeat(class(""), 40), api.OK},
		{strings.Repeat(class(""), 41), api.ErrSize},
		{strings.Repeat(class(""), 41) + "x", api.ErrForm},
		{class(strings.Repeat("extends B; ", 40)), api.OK},
		{class(strings.Repeat("extends B; ", 41)), api.ErrSize},
		{class(strings.Repeat("extends B; ", 41) + "x"), api.ErrForm},
		{class(strings.Repeat("Real x; ", 40)), api.OK},
		{class(strings.Repeat("Real x; ", 41)), api.ErrSize},
		{class("") + class(strings.Repeat("Real x; ", 41)) + class(""), api.ErrSize},
		{class(strings.Repeat("extends B; Real x; ", 40)), api.OK},
		{class("equation " + strings.Repeat("x = 1; ", 40)), api.OK},
		{class("equation " + strings.Repeat("x = 1; ", 41)), api.ErrSize},
		{class("initial equation " + strings.Repeat("x = 1; ", 40)), api.OK},
		{class("initial equation " + strings.Repeat("x = 1; ", 41)), api.ErrSize},
		{class("equation for i in 1:2 loop " + strings.Repeat("x = 1; ", 40) + "end for;"), api.OK},
		{class("equation for i in 1:2 loop " + strings.Repeat("x = 1; ", 41) + "end for;"), api.ErrSize},
		{class("equation if a then else " + strings.Repeat("x = 1; ", 41) + "end if;"), api.ErrSize},
		{class("equation when a then " + strings.Repeat("x = 1; ", 40) + "end when;"), api.OK},
		{class("equation when a then " + strings.Repeat("x = 1; ", 41) + "end when;"), api.ErrSize},
		{class("A a(x = 1" + strings.Repeat(", x = 1", 39) + ");"), api.OK},
		{class("A a(x = 1" + strings.Repeat(", x = 1", 40) + ");"), api.ErrSize},
		{class("extends B(x = 1" + strings.Repeat(", x = 1", 40) + ");"), api.ErrSize},
		{class("A a(" + strings.Repeat("x(", 5) + "x = 1" + strings.Repeat(")", 6) + ";"), api.OK},
		{class("A a(" + strings.Repeat("x(", 6) + "x = 1" + strings.Repeat(")", 7) + ";"), api.ErrSize},
		{class("A a(" + strings.Repeat("x(", 600) + "x = 1" + strings.Repeat(")", 601) + ";"), api.ErrSize},
		{class("A a(" + strings.Repeat("x(", 600) + "x = 1" + strings.Repeat(")", 600) + ";"), api.ErrForm},
		{class("equation " + strings.Repeat("for i in 1:2 loop ", 150) + strings.Repeat("end for; ", 150)), api.ErrSize},
		{class("equation " + strings.Repeat("for i in 1:2 loop ", 150) + strings.Repeat("end for; ", 149)), api.ErrForm},
		{class("Real x[1,2,3];"), api.ErrForm},
		{class("Real x = {1,2,3,4,5,6,7,8,9,10,11,12,13};"), api.ErrForm},
		{class("Real x = " + strings.Repeat("not ", 100) + "{1,2,3,4,5,6,7,8,9,10,11,12,13};"), api.ErrForm},
		{class(strings.Repeat(" ", 8000)), api.ErrSize},
		{class("") + strings.Repeat(" ", 8000-len(class(""))), api.OK},
		{class("") + strings.Repeat(" ", 8001-len(class(""))), api.ErrSize},
		{strings.Repeat("x ", 2001), api.ErrSize},
		{strings.Repeat("x ", 2000), api.ErrForm},
		{"$" + strings.Repeat("x ", 2001), api.ErrForm},
		{strings.Repeat("model ", 1000), api.ErrForm},
		{"model A " + strings.Repeat("equation if a then ", 400), api.ErrForm},
	} {
		if list, err := syntax.Parse(c.text); err != c.want || (len(list) > 0) != (err == api.OK) {
			t.Errorf("Parse(%.80q .. of %d bytes): %d classes, %d, want %d", c.text, len(c.text), len(list), err, c.want)
		}
	}
}

// A tree of a source may be as large as that of a class.
func TestParseTreeLimits(t *testing.T) {
	for _, source := range []string{
		"A a[@];", "A a[1, @];", "A a = @;", "A a(x = @);", "A a(y = 1, x(y = 1, z = @));", "extends B(x = @);", "extends B(y(x(z = @)));",
		"equation @ = 1;", "equation x = @;", "equation connect(@, x);", "equation connect(x, @);", "initial equation @ = 1;", "initial equation x = @;",
		"equation for i in @:1 loop end for;", "equation for i in 1:@ loop end for;", "equation for i in 1:1 loop x = @; end for;",
		"equation if @ then end if;", "equation if a then x = @; end if;", "equation if a then else @ = x; end if;",
		"equation when @ then x = 1; end when;", "equation when a then x = 1; y = @; end when;", "equation when a then @ = 1; end when;",
		"equation when a then reinit(@, 1); end when;", "equation when a then reinit(x, @); end when;", "initial equation if a then else for i in 1:2 loop x = @; end for; end if;",
	} {
		for parts, want := range map[int]api.Errno{199: api.OK, 200: api.ErrSize} {
			text := "model A " + strings.ReplaceAll(source, "@", "x"+strings.Repeat(".x", parts-1)) + " end A;"
			if list, err := syntax.Parse(text); err != want || (len(list) > 0) != (err == api.OK) {
				t.Errorf("%s with %d parts: %d, want %d", source, parts, err, want)
			}
		}
	}
}

// overwrite puts other things in all that a class consists of.
func overwrite(list []api.Class) {
	for i := range list {
		p := placesOf(&list[i])
		for _, word := range p.words {
			*word = "changed"
		}
		for _, trees := range p.trees {
			overwriteTrees(*trees)
		}
		for _, s := range p.stmts {
			s.Kind = "changed"
		}
	}
}

func overwriteTrees(list []api.Tree) {
	for i := range list {
		overwriteTrees(list[i].Kids)
		list[i] = leaf("changed", "")
	}
}

func TestNewMemory(t *testing.T) {
	one, two := parse(t, whole), parse(t, whole)
	want := write(t, two)
	overwrite(one)
	if got := write(t, two); got != want {
		t.Errorf("another result has changed: %s", got)
	}
	// no two lists of a result share memory: to put something at the end of one changes no other one
	p := placesOf(&two[0])
	for _, trees := range p.trees {
		_ = append(*trees, api.Tree{})
		for _, tree := range *trees {
			_ = append(tree.Kids, api.Tree{})
		}
	}
	for _, mods := range p.mods {
		_ = append(*mods, api.Mod{})
	}
	for _, s := range p.stmts {
		_, _ = append(s.Body, api.Stmt{}), append(s.Else, api.Stmt{})
	}
	if got := write(t, two); got != want {
		t.Errorf("lists share memory: %s", got)
	}
	x, _ := syntax.Expr("{a[1], -b}")
	y, _ := syntax.Expr("{a[1], -b}")
	overwriteTrees(x.Kids)
	if notation(y) != "list(a[1], neg(b))" {
		t.Errorf("another result has changed: %s", notation(y))
	}
}

func TestKeepsArguments(t *testing.T) {
	list, before := parse(t, whole), parse(t, whole)
	write(t, list)
	if err := syntax.Check(list[0]); err != api.OK || !reflect.DeepEqual(list, before) {
		t.Errorf("the argument has changed: %+v, %d", list, err)
	}
	x, _ := syntax.Expr("a + (if b then {1} else -c)")
	kept := notation(x)
	if _, err := syntax.Show(x); err != api.OK || !syntax.IsExpr(x) || notation(x) != kept {
		t.Errorf("the argument has changed: %s", notation(x))
	}
	if _, _, err := lex.Scan(whole); err != api.OK {
		t.Error("the source is none")
	}
}

package shape_test

import (
	"slices"
	"strings"

	"linkwork/api"
	"linkwork/syntax"
)

// source is a row of numbers that look random and are the same in every run.
type source uint64

func (s *source) below(n int) int {
	*s = *s*6364136223846793005 + 1442695040888963407
	return int(uint64(*s) >> 33 % uint64(n))
}

func pick[T any](s *source, list ...T) T {
	return list[s.below(len(list))]
}

// shuffled returns the elements of a list in another order.
func shuffled[T any](s *source, list []T) []T {
	list = slices.Clone(list)
	for i := range list {
		j := i + s.below(len(list)-i)
		list[i], list[j] = list[j], list[i]
	}
	return list
}

// words are those of scopes. Others are left for what is not used, or unknown.
func words() []string {
	return []string{"a", "b", "c", "d", "e", "f"}
}

// scene makes expressions and statements for a scope.
type scene struct {
	*source
	scope  api.Scope
	loops  []round
	within int // how many indices what is made is in
}

// round is a for: its variable, and its least and greatest value.
type round struct {
	word     string
	from, to int
}

// scene returns one with a new scope.
func (s *source) scene() *scene {
	g := &scene{source: s}
	names := map[string]bool{}
	for range 4 + s.below(8) {
		var path []string
		for range 1 + s.below(3)*s.below(2) {
			path = append(path, pick(s, words()...))
		}
		names[strings.Join(path, ".")] = true
	}
	for name := range names {
		g.scope.Paths = append(g.scope.Paths, api.Path{Name: name})
	}
	g.scope = inOrder(g.scope)
	for i := range g.scope.Paths {
		p := &g.scope.Paths[i]
		for range 1 + strings.Count(p.Name, ".") {
			p.Dims = append(p.Dims, pick(s, nil, nil, []int{s.below(4)}, []int{3}, []int{2}, []int{2, 2}, []int{1 + s.below(3), s.below(4)}))
		}
	}
	for _, word := range words() {
		if s.below(3) == 0 {
			g.scope.Wholes = append(g.scope.Wholes, api.Whole{Name: word, Value: pick(s, 0, 1, 2, 3, -1, -7, 1000000, -1000000)})
		}
	}
	return g
}

// dims returns the dimensions of some expression that has elements.
func (g *scene) dims() []int {
	return pick(g.source, nil, nil, []int{1}, []int{2}, []int{3}, []int{2, 2}, []int{2, 3}, []int{1, 2, 2}, []int{2, 1, 2, 2})
}

// expr returns an expression with these dimensions.
func (g *scene) expr(d []int, depth int) api.Tree {
	if depth <= 0 {
		return g.leaf(d)
	}
	kid := func(d []int) api.Tree { return g.expr(d, depth-1-g.below(2)) }
	switch g.below(10) {
	case 0, 1:
		return g.leaf(d)
	case 2:
		return node("neg", kid(d))
	case 3:
		return node(pick(g.source, "add", "sub"), kid(d), kid(d))
	case 4:
		if g.below(2) == 0 {
			return node("mul", kid(nil), kid(d))
		}
		return node("mul", kid(d), kid(nil))
	case 5:
		return node("div", kid(d), kid(nil))
	case 6:
		return node("if", kid(nil), kid(d), kid(d))
	}
	if len(d) > 0 && d[0] > 0 {
		t := node("list")
		for range d[0] {
			t.Kids = append(t.Kids, kid(d[1:]))
		}
		return t
	}
	if len(d) > 0 {
		return g.leaf(d)
	}
	switch g.below(4) {
	case 0:
		return node("sum", kid(pick(g.source, []int{1}, []int{2}, []int{3}, []int{2, 2}, []int{0})))
	case 1:
		return node(pick(g.source, "less", "atmost", "more", "atleast", "equal", "unequal", "and", "or"), kid(nil), kid(nil))
	case 2:
		return node("not", kid(nil))
	}
	return g.whole(g.below(7)-3, depth-1)
}

// leaf returns an expression with these dimensions that has few levels.
func (g *scene) leaf(d []int) api.Tree {
	if ref, ok := g.ref(d, false); ok && g.below(3) > 0 {
		return ref
	}
	if ref, ok := g.ref(d, true); ok && g.below(2) == 0 {
		return node(pick(g.source, "der", "pre"), ref)
	}
	if len(d) == 0 {
		if ref, ok := g.ref([]int{2, 2}, true); ok && g.below(4) == 0 {
			return node("size", ref, g.index(2))
		}
		return pick(g.source, number(g.below(9)), api.Tree{Op: "num", Text: "3/2"}, node("true"), node("false"), node("time"), node("initial"),
			node("sample", node("div", number(1), number(0)), node("neg", number(2))), g.whole(g.below(3), 2))
	}
	if d[0] == 0 {
		ref, _ := g.ref(d, false)
		return ref // perhaps none, and then what is made is no expression
	}
	t := node("list")
	for range d[0] {
		t.Kids = append(t.Kids, g.leaf(d[1:]))
	}
	return t
}

// ref returns a ref with these dimensions, as a path or as any expression, if there is one.
func (g *scene) ref(d []int, isPath bool) (api.Tree, bool) {
	type form struct {
		path    api.Path
		indexed []bool
	}
	var list []form
	for _, p := range g.scope.Paths {
		if !strings.Contains(p.Name, ".") && !isPath && g.isWhole(p.Name) {
			continue
		}
		for _, indexed := range indexedFor(p.Dims, d) {
			list = append(list, form{p, indexed})
		}
	}
	if len(list) == 0 {
		return api.Tree{}, false
	}
	f := pick(g.source, list...)
	t := node("ref")
	for i, word := range strings.Split(f.path.Name, ".") {
		part := api.Tree{Op: "part", Text: word}
		if f.indexed[i] {
			for _, n := range f.path.Dims[i] {
				part.Kids = append(part.Kids, g.index(n))
			}
		}
		t.Kids = append(t.Kids, part)
	}
	return t, true
}

// indexedFor returns the ways in which words have indices, or none, so that the dimensions of the others are given ones.
func indexedFor(words [][]int, d []int) [][]bool {
	if len(words) == 0 {
		if len(d) > 0 {
			return nil
		}
		return [][]bool{nil}
	}
	var list [][]bool
	first, rest := words[0], words[1:]
	if len(first) <= len(d) && slices.Equal(first, d[:len(first)]) {
		for _, others := range indexedFor(rest, d[len(first):]) {
			list = append(list, append([]bool{false}, others...))
		}
	}
	if len(first) > 0 && !slices.Contains(first, 0) {
		for _, others := range indexedFor(rest, d) {
			list = append(list, append([]bool{true}, others...))
		}
	}
	return list
}

func (g *scene) isWhole(word string) bool {
	return slices.ContainsFunc(g.scope.Wholes, func(w api.Whole) bool { return w.Name == word }) ||
		slices.ContainsFunc(g.loops, func(l round) bool { return l.word == word })
}

// index returns a whole expression from 1 to n.
func (g *scene) index(n int) api.Tree {
	for i, l := range g.loops {
		inner := slices.ContainsFunc(g.loops[i+1:], func(other round) bool { return other.word == l.word })
		if !inner && l.from >= 1 && l.to <= n && g.below(3) > 0 {
			return ref(l.word)
		}
	}
	if g.within > 1 {
		return number(1 + g.below(n))
	}
	g.within++
	defer func() { g.within-- }()
	return g.whole(1+g.below(n), g.below(3))
}

// whole returns a whole expression with this value.
func (g *scene) whole(v, depth int) api.Tree {
	if depth <= 0 {
		return number(v)
	}
	kid := func(v int) api.Tree { return g.whole(v, depth-1) }
	k := 1 + g.below(4)
	switch g.below(8) {
	case 0:
		return node("add", kid(v-k), kid(k))
	case 1:
		return node("sub", kid(v+k), kid(k))
	case 2:
		return node("div", kid(v*k), kid(k))
	case 3:
		if v%k == 0 {
			return node("mul", kid(v/k), kid(k))
		}
		return node("neg", kid(-v))
	case 4:
		if g.below(2) == 0 {
			return node("if", g.truth(true, depth-1), kid(v), g.expr(nil, 0))
		}
		return node("if", g.truth(false, depth-1), node("div", kid(1), kid(0)), kid(v))
	case 5:
		d := pick(g.source, []int{2}, []int{3}, []int{2, 2})
		if ref, ok := g.ref(d, true); ok && len(g.loops) == 0 {
			return node("add", node("size", ref, kid(1)), kid(v-d[0]))
		}
	case 6:
		if len(g.scope.Wholes) > 0 {
			w := pick(g.source, g.scope.Wholes...)
			isLoop := slices.ContainsFunc(g.loops, func(l round) bool { return l.word == w.Name })
			if !isLoop && w.Value > -1000 && w.Value < 1000 {
				return node("sub", ref(w.Name), kid(w.Value-v))
			}
		}
	}
	return number(v)
}

// truth returns a truth of whole expressions with this value.
func (g *scene) truth(v bool, depth int) api.Tree {
	if depth <= 0 {
		if v {
			return node("true")
		}
		return node("false")
	}
	a := g.below(5) - 2
	kid := func(v bool) api.Tree { return g.truth(v, depth-1) }
	switch g.below(4) {
	case 0:
		return node("not", kid(!v))
	case 1:
		if v {
			return node("and", kid(true), kid(true))
		}
		return node("and", kid(false), kid(g.below(2) == 0))
	case 2:
		if v {
			return node("or", kid(true), kid(g.below(2) == 0))
		}
		return node("or", kid(false), kid(false))
	}
	op := pick(g.source, "less", "unequal", "atmost")
	if v {
		return node(op, g.whole(a, depth-1), g.whole(a+1, depth-1))
	}
	return node(pick(g.source, "more", "equal", "atleast"), g.whole(a, depth-1), g.whole(a+1, depth-1))
}

// changed returns an expression of which something is changed, perhaps so that it has an error.
func (g *scene) changed(x api.Tree) api.Tree {
	for {
		t := clone(x)
		g.change(&t)
		if syntax.IsExpr(t) {
			return t
		}
	}
}

// change changes something in a tree.
func (g *scene) change(t *api.Tree) {
	if len(t.Kids) > 0 && g.below(4) > 0 {
		g.change(&t.Kids[g.below(len(t.Kids))])
		return
	}
	switch t.Op {
	case "num":
		t.Text = pick(g.source, "0", "1", "2", "5", "1/2", "1000000", "1000001")
	case "ref":
		if len(t.Kids) > 1 && g.below(2) == 0 {
			t.Kids = t.Kids[1:]
		} else {
			t.Kids = append(t.Kids, ref(pick(g.source, words()...)).Kids...)
		}
	case "part":
		switch g.below(4) {
		case 0:
			t.Text = pick(g.source, "a", "b", "c", "d", "e", "f", "g")
		case 1:
			t.Kids = t.Kids[:g.below(len(t.Kids)+1)]
		case 2:
			t.Kids = append(t.Kids, g.whole(g.below(5), 2))
		default:
			t.Kids = append([]api.Tree{g.expr(nil, 1)}, t.Kids...)
		}
	default:
		switch g.below(4) {
		case 0:
			t.Op = pick(g.source, "add", "sub", "mul", "div", "less", "and", "or", "equal", "sum", "not", "neg", "list", "sample", "der")
		case 1:
			*t = g.expr(g.dims(), 1)
		case 2:
			*t = g.whole(g.below(5), 2)
		default:
			*t = pick(g.source, ref("a"), ref("b"), ref("g"), node("time"), number(1000001), node("div", number(1), number(0)))
		}
	}
}

// stmt returns a statement. With a depth of 0 it is no for and no if.
func (g *scene) stmt(depth int) api.Stmt {
	kind := pick(g.source, "equal", "equal", "equal", "connect", "when", "for", "for", "if")
	if depth == 0 && (kind == "for" || kind == "if") {
		kind = "equal"
	}
	switch kind {
	case "connect":
		if d := g.dims(); g.below(4) > 0 {
			left, ok := g.ref(d, true)
			right, _ := g.ref(d, true)
			if ok {
				return api.Stmt{Kind: kind, Left: one(left), Right: one(right)}
			}
		}
	case "when":
		return g.when()
	case "for":
		return g.loop(depth)
	case "if":
		cond := g.truth(g.below(2) == 0, 2)
		if word := pick(g.source, words()...); g.isWhole(word) {
			cond = pick(g.source, cond, ref(word), node("less", ref(word), number(2)))
		}
		return api.Stmt{Kind: kind, Cond: one(cond), Body: g.body(depth - 1), Else: g.body(depth - 1)}
	}
	d := g.dims()
	return api.Stmt{Kind: "equal", Left: one(g.expr(d, 2)), Right: one(g.expr(d, 2))}
}

func (g *scene) body(depth int) []api.Stmt {
	var list []api.Stmt
	for range g.below(4) {
		list = append(list, g.stmt(depth))
	}
	return list
}

func (g *scene) loop(depth int) api.Stmt {
	from := pick(g.source, 1, 1, 1, 2, 0, g.below(3)-2)
	l := round{pick(g.source, append(words(), "i", "j")...), from, from + g.below(4) - 1}
	x := api.Stmt{Kind: "for", Var: l.word, From: one(g.whole(l.from, 2)), To: one(g.whole(l.to, 2))}
	g.loops = append(g.loops, l)
	x.Body = g.body(depth - 1)
	g.loops = g.loops[:len(g.loops)-1]
	return x
}

func (g *scene) when() api.Stmt {
	x := api.Stmt{Kind: "when", Cond: one(g.expr(nil, 2))}
	for range 1 + g.below(3) {
		left, ok := g.ref(nil, true)
		if !ok {
			left = ref("a")
		}
		x.Body = append(x.Body, api.Stmt{Kind: pick(g.source, "equal", "reinit"), Left: one(left), Right: one(g.expr(nil, 2))})
	}
	return x
}

// changeStmt changes something in one of the expressions of a statement.
func (g *scene) changeStmt(x *api.Stmt) {
	if bodies := append(x.Body, x.Else...); len(bodies) > 0 && g.below(3) > 0 {
		at := g.below(len(bodies))
		if at < len(x.Body) {
			g.changeStmt(&x.Body[at])
		} else {
			g.changeStmt(&x.Else[at-len(x.Body)])
		}
		return
	}
	for _, list := range shuffled(g.source, [][]api.Tree{x.Left, x.Right, x.From, x.To, x.Cond}) {
		if len(list) > 0 {
			g.change(&list[0])
			return
		}
	}
}

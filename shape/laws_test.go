package shape_test

import (
	"slices"
	"strconv"
	"strings"
	"testing"

	"linkwork/api"
	"linkwork/shape"
	"linkwork/syntax"
)

// fitting returns an expression without errors for a scene.
func (g *scene) fitting(t *testing.T, d []int, depth int) api.Tree {
	t.Helper()
	for {
		x := g.expr(d, depth)
		if !syntax.IsExpr(x) {
			continue
		}
		got, err := shape.Shape(g.scope, x)
		if !slices.Equal(got, d) || err != api.OK {
			t.Fatalf("Shape(%v, %s) = %v, %d, want %v", g.scope, shown(x), got, err, d)
		}
		return x
	}
}

// isElement reports whether a tree has no sum, size and list, and refs with an index wherever there are dimensions.
func isElement(o oracle, t api.Tree) bool {
	switch t.Op {
	case "sum", "size", "list":
		return false
	case "ref":
		var words []string
		for _, part := range t.Kids {
			words = append(words, part.Text)
		}
		for i, part := range t.Kids {
			if len(part.Kids) != len(o.paths[strings.Join(words, ".")][i]) {
				return false
			}
			if slices.ContainsFunc(part.Kids, func(kid api.Tree) bool { return kid.Op != "num" }) {
				return false
			}
		}
		return true
	}
	return !slices.ContainsFunc(t.Kids, func(kid api.Tree) bool { return !isElement(o, kid) })
}

// P8.1
func TestLawElements(t *testing.T) {
	s := source(801)
	arrays := 0
	for range 5000 {
		g := s.scene()
		d := g.dims()
		x := g.fitting(t, d, g.below(5))
		product := 1
		for _, n := range d {
			product *= n
		}
		list, ok := elements(t, g.scope, x)
		if !ok {
			continue
		}
		if len(list) != product {
			t.Fatalf("%s has %d elements", shown(x), len(list))
		}
		for _, e := range list {
			d, err := shape.Shape(g.scope, e)
			again, e2 := shape.Element(g.scope, e, nil)
			if len(d) > 0 || err != api.OK || !same(again, e) || e2 != api.OK || !isElement(oracleOf(g.scope), e) {
				t.Fatalf("%s, an element of %s for %v: %v, %d, %s, %d", shown(e), shown(x), g.scope, d, err, shown(again), e2)
			}
		}
		// no others
		for i := range d {
			for _, k := range []int{-1, 0, d[i] + 1, 13} {
				index := slices.Repeat([]int{1}, len(d))
				index[i] = k
				if _, err := shape.Element(g.scope, x, index); err != api.ErrArg {
					t.Fatalf("Element(%s, %v): %d", shown(x), index, err)
				}
			}
		}
		for _, index := range [][]int{slices.Repeat([]int{1}, len(d)+1), slices.Repeat([]int{1}, len(d))[:max(0, len(d)-1)]} {
			if _, err := shape.Element(g.scope, x, index); len(index) != len(d) && err != api.ErrArg {
				t.Fatalf("Element(%s, %v): %d", shown(x), index, err)
			}
		}
		if product > 1 {
			arrays++
		}
	}
	if arrays < 2000 {
		t.Errorf("%d arrays", arrays)
	}
}

// unrolledTexts returns the texts of lines without their names.
func unrolledTexts(list []api.Line) []string {
	var texts []string
	for _, l := range list {
		texts = append(texts, line(api.Line{Stmt: l.Stmt}))
	}
	return texts
}

// P8.2
func TestLawLoops(t *testing.T) {
	s := source(802)
	made, failed := 0, 0
	for i := range 2000 {
		g := s.scene()
		x := g.loop(2)
		if i%4 == 0 {
			x = clone(x)
			g.changeStmt(&x)
		}
		a, err := shape.Value(g.scope, x.From[0])
		b, e := shape.Value(g.scope, x.To[0])
		if _, e := syntax.Line(x); e != api.OK || err != api.OK {
			continue
		}
		if e != api.OK || b < a {
			continue
		}
		c := a - 1 + g.below(b-a+2)
		first, second := clone(x), clone(x)
		first.To, second.From = one(number(c)), one(number(c+1))
		whole, err := shape.Unroll(g.scope, "e", x)
		one, e1 := shape.Unroll(g.scope, "f", first)
		other, e2 := shape.Unroll(g.scope, "g", second)
		text, _ := syntax.Line(x)
		want := e1
		if e1 == api.OK {
			want = e2
		}
		if err != want || err == api.OK && !slices.Equal(unrolledTexts(whole), unrolledTexts(append(one, other...))) {
			t.Fatalf("%s for %v, divided at %d: %q, %d; %q, %d; %q, %d", text, g.scope, c, lines(whole), err, lines(one), e1, lines(other), e2)
		}
		if err == api.OK && len(one)*len(other) > 0 {
			made++
		}
		if err != api.OK {
			failed++
		}
	}
	if made < 100 || failed < 60 {
		t.Errorf("%d with lines in both, %d with an error", made, failed)
	}
}

// P8.3
func TestLawSum(t *testing.T) {
	s := source(803)
	for range 4000 {
		g := s.scene()
		x := g.fitting(t, pick(g.source, []int{1}, []int{2}, []int{3}, []int{2, 2}, []int{3, 2}, []int{12}), g.below(4))
		list, ok := elements(t, g.scope, x)
		if !ok {
			continue
		}
		want := total(list)
		got, err := shape.Element(g.scope, node("sum", x), nil)
		if isTooLarge(want) && err == api.ErrSize || !syntax.IsExpr(node("sum", x)) {
			continue
		}
		if !same(got, want) || err != api.OK {
			t.Fatalf("the sum of %s for %v: %s, %d, want %s", shown(x), g.scope, shown(got), err, shown(want))
		}
	}
	for text, want := range map[string]string{"sum(b)": "0", "sum(c)": "0", "sum(2 * b)": "0", "sum({b, b})": "0", "sum({b})": "0"} {
		if got, err := shape.Element(usual(), expr(t, text), nil); shown(got) != want || err != api.OK {
			t.Errorf("Element(%s) = %s, %d", text, shown(got), err)
		}
	}
}

// P8.4
func TestLawArrays(t *testing.T) {
	s := source(804)
	for range 4000 {
		g := s.scene()
		d := g.dims()
		left, right := g.fitting(t, d, g.below(4)), g.fitting(t, d, g.below(4))
		ls, ok1 := elements(t, g.scope, left)
		rs, ok2 := elements(t, g.scope, right)
		got, err := shape.Unroll(g.scope, "e", api.Stmt{Kind: "equal", Left: one(left), Right: one(right)})
		if !ok1 || !ok2 {
			if err != api.ErrSize || len(got) > 0 {
				t.Fatalf("%s = %s: %d", shown(left), shown(right), err)
			}
			continue
		}
		var want []api.Line
		for i, index := range indicesOf(d) {
			var numbers []string
			for _, k := range index {
				numbers = append(numbers, strconv.Itoa(k))
			}
			name := "e"
			if len(d) > 0 {
				name += "[" + strings.Join(numbers, ",") + "]"
			}
			equal := api.Stmt{Kind: "equal", Left: one(ls[i]), Right: one(rs[i])}
			single, err := shape.Unroll(g.scope, name, equal)
			if err != api.OK || !same(single, []api.Line{{Name: name, Stmt: equal}}) {
				t.Fatalf("%s = %s: %q, %d", shown(ls[i]), shown(rs[i]), lines(single), err)
			}
			want = append(want, single...)
		}
		if !same(got, want) || err != api.OK {
			t.Fatalf("%s = %s for %v: %q, %d, want %q", shown(left), shown(right), g.scope, lines(got), err, lines(want))
		}
	}
}

// named adds the paths of all refs in a tree, and their words.
func named(t api.Tree, seen map[string]bool) {
	if t.Op == "ref" {
		var words []string
		for _, part := range t.Kids {
			words = append(words, part.Text)
			seen[part.Text] = true
		}
		seen[strings.Join(words, ".")] = true
	}
	for _, kid := range t.Kids {
		named(kid, seen)
	}
}

func namedIn(x api.Stmt, seen map[string]bool) {
	for _, t := range slices.Concat(x.Left, x.Right, x.From, x.To, x.Cond) {
		named(t, seen)
	}
	for _, s := range slices.Concat(x.Body, x.Else) {
		namedIn(s, seen)
	}
}

// others returns the scopes without what is not named, and with more of that.
func (g *scene) others(seen map[string]bool) []api.Scope {
	s := clone(g.scope)
	s.Paths = slices.DeleteFunc(s.Paths, func(p api.Path) bool { return !seen[p.Name] })
	s.Wholes = slices.DeleteFunc(s.Wholes, func(w api.Whole) bool { return !seen[w.Name] })
	more := clone(g.scope)
	for _, name := range []string{"unused", "A.a.a", "z9", "a.unused.c", "f_"} {
		if !seen[name] {
			p := api.Path{Name: name}
			for range strings.Split(name, ".") {
				p.Dims = append(p.Dims, pick(g.source, nil, []int{g.below(13)}, []int{2, 0}))
			}
			more.Paths = append(more.Paths, p)
		}
		if !seen[name] && !strings.Contains(name, ".") {
			more.Wholes = append(more.Wholes, api.Whole{Name: name, Value: g.below(100) - 50})
		}
	}
	return []api.Scope{s, inOrder(more)}
}

// P8.5
func TestLawUnused(t *testing.T) {
	s := source(805)
	less, wrong := 0, 0
	for i := range 2500 {
		g := s.scene()
		x, y := g.expr(g.dims(), g.below(4)), g.stmt(2)
		w := g.whole(g.below(5), 3)
		if i%2 > 0 && syntax.IsExpr(x) && syntax.IsExpr(w) {
			x, w, y = g.changed(x), g.changed(w), clone(y)
			g.changeStmt(&y)
		}
		result := func(scope api.Scope) []any {
			v, e1 := shape.Value(scope, w)
			d, e2 := shape.Shape(scope, x)
			e, e3 := shape.Element(scope, x, slices.Repeat([]int{1}, len(d)))
			l, e4 := shape.Unroll(scope, "e", y)
			if e2 != api.OK {
				wrong++
			}
			return []any{v, e1, d, e2, e, e3, l, e4}
		}
		seen := map[string]bool{}
		named(x, seen)
		named(w, seen)
		namedIn(y, seen)
		want := result(g.scope)
		for _, scope := range g.others(seen) {
			less += max(0, len(g.scope.Paths)-len(scope.Paths))
			if got := result(scope); !same(got, want) {
				t.Fatalf("%s, %s, %v: %v for %v, %v for %v", shown(x), shown(w), y, got, scope, want, g.scope)
			}
		}
	}
	if less < 2000 || wrong < 700 {
		t.Errorf("%d paths were left out, %d errors", less, wrong)
	}
}

// P8.6
func TestLawNames(t *testing.T) {
	s := source(806)
	many := 0
	for range 5000 {
		g := s.scene()
		x := g.stmt(3)
		name := pick(g.source, "e", "e1", "a.e[1].2", "k'")
		list, err := shape.Unroll(g.scope, name, x)
		if err != api.OK {
			continue
		}
		seen := map[string]bool{}
		for _, l := range list {
			rest, ok := strings.CutPrefix(l.Name, name)
			if !ok || seen[l.Name] || len(l.Name) > api.MaxName || rest != "" && rest[0] != '.' && rest[0] != '[' {
				t.Fatalf("Unroll(%s): %q", name, lines(list))
			}
			seen[l.Name] = true
		}
		if len(list) > 5 {
			many++
		}
	}
	if many < 200 {
		t.Errorf("%d have many lines", many)
	}
}

// twice reports whether two statements of one body, at any level, have the same text.
func twice(x api.Stmt) bool {
	for _, list := range [][]api.Stmt{x.Body, x.Else} {
		seen := map[string]bool{}
		for _, s := range list {
			text, _ := syntax.Line(s)
			if seen[text] || twice(s) {
				return true
			}
			seen[text] = true
		}
	}
	return false
}

// stirred returns a statement with the bodies of for and if in another order, within other statements, too, if it is
// to be so at all levels.
func (g *scene) stirred(x api.Stmt, all bool) api.Stmt {
	if x.Kind == "when" {
		return x
	}
	x.Body, x.Else = shuffled(g.source, x.Body), shuffled(g.source, x.Else)
	for _, list := range [][]api.Stmt{x.Body, x.Else} {
		for i := range list {
			if all {
				list[i] = g.stirred(list[i], all)
			}
		}
	}
	return x
}

// P8.7. (The text of a statement is also that of its body. So where this is in another order the numbers of statements
// around it may be other ones.)
func TestLawOrder(t *testing.T) {
	s := source(807)
	stirred := 0
	for range 2500 {
		g := s.scene()
		x := g.stmt(2)
		list, err := shape.Unroll(g.scope, "e", x)
		if twice(x) {
			continue
		}
		outer, inner := g.stirred(x, false), g.stirred(x, true)
		if !same(outer, x) {
			stirred++
		}
		if got, e := shape.Unroll(g.scope, "e", outer); !same(got, list) || e != err {
			t.Fatalf("%v: %q, %d, in another order %q, %d", x, lines(list), err, lines(got), e)
		}
		got, e := shape.Unroll(g.scope, "e", inner)
		if err != api.OK || e != api.OK {
			continue
		}
		a, b := unrolledTexts(list), unrolledTexts(got)
		slices.Sort(a)
		slices.Sort(b)
		if !slices.Equal(a, b) {
			t.Fatalf("%v: %q, in another order %q", x, a, b)
		}
	}
	if stirred < 150 {
		t.Errorf("%d in another order", stirred)
	}
}

// Examples of the chapter.
func TestExamples(t *testing.T) {
	s := scopeOf("x[3]")
	list, err := shape.Unroll(s, "e", stmt(t, "x = 2 * {1, 2, 3};"))
	if len(list) != 3 || line(list[0]) != "e[1]: x [ 1 ] = 2 * 1 ;" || err != api.OK {
		t.Errorf("Unroll = %q, %d", lines(list), err)
	}
	if e, err := shape.Element(s, expr(t, "sum(x)"), nil); shown(e) != "x[1]+x[2]+x[3]" || err != api.OK {
		t.Errorf("Element = %s, %d", shown(e), err)
	}
	list, err = shape.Unroll(s, "e", stmt(t, "for i in 1:2 loop x[i] = i; end for;"))
	if !slices.Equal(lines(list), []string{"e[1].1: x [ 1 ] = 1 ;", "e[2].1: x [ 2 ] = 2 ;"}) || err != api.OK {
		t.Errorf("Unroll = %q, %d", lines(list), err)
	}
}

package shape_test

import (
	"math/big"
	"slices"
	"strconv"
	"strings"
	"testing"

	"linkwork/api"
	"linkwork/shape"
	"linkwork/syntax"
)

// A second way to shapes and elements: an expression is an array of all of its elements, which is made of the arrays of
// its kids. Values are calculated as fractions. An error is a panic.

type oracle struct {
	paths  map[string][][]int
	wholes map[string]int
}

func oracleOf(s api.Scope) oracle {
	o := oracle{map[string][][]int{}, map[string]int{}}
	for _, p := range s.Paths {
		o.paths[p.Name] = p.Dims
	}
	for _, w := range s.Wholes {
		o.wholes[w.Name] = w.Value
	}
	return o
}

// failed returns the error that a function panics with.
func failed(f func()) (err api.Errno) {
	defer func() {
		if e := recover(); e != nil {
			err = e.(api.Errno)
		}
	}()
	f()
	return api.OK
}

func need(ok bool, err api.Errno) {
	if !ok {
		panic(err)
	}
}

// array is all elements of an expression, in the order of their indices.
type array struct {
	dims     []int
	elements []api.Tree
}

func (a array) isScalar() bool {
	return len(a.dims) == 0
}

// at returns the element of an array, or that of a scalar.
func (a array) at(i int) api.Tree {
	if a.isScalar() {
		return a.elements[0]
	}
	return a.elements[i]
}

func sameDims(a, b array) bool {
	return slices.Equal(a.dims, b.dims)
}

func (o oracle) array(t api.Tree) array {
	single := func(x api.Tree) array { return array{nil, one(x)} }
	switch t.Op {
	case "ref":
		if word := t.Kids[0]; len(t.Kids) == 1 && len(word.Kids) == 0 {
			if v, ok := o.wholes[word.Text]; ok {
				return single(number(v))
			}
		}
		return o.path(t)
	case "der", "pre":
		a := o.path(t.Kids[0])
		for i, x := range a.elements {
			a.elements[i] = node(t.Op, x)
		}
		return a
	case "size":
		return single(number(o.value(t)))
	case "sample":
		need(constant(t.Kids[0]) && constant(t.Kids[1]), api.ErrType)
		return single(t)
	}
	var kids []array
	for _, kid := range t.Kids {
		kids = append(kids, o.array(kid))
	}
	switch t.Op {
	case "sum":
		need(len(kids[0].dims) == 1 || len(kids[0].dims) == 2, api.ErrDim)
		return single(total(kids[0].elements))
	case "list":
		a := array{dims: append([]int{len(kids)}, kids[0].dims...)}
		for _, kid := range kids {
			need(sameDims(kid, kids[0]) && len(a.dims) <= 4, api.ErrDim)
			a.elements = append(a.elements, kid.elements...)
		}
		return a
	}
	return spread(t, kids)
}

func total(list []api.Tree) api.Tree {
	if len(list) == 0 {
		return number(0)
	}
	sum := list[0]
	for _, x := range list[1:] {
		sum = node("add", sum, x)
	}
	return sum
}

// spread returns the array of an operator that is done element by element.
func spread(t api.Tree, kids []array) array {
	form := array{nil, one(api.Tree{})}
	for _, kid := range kids {
		if !kid.isScalar() {
			form = kid
		}
	}
	for i, kid := range kids {
		fits := kid.isScalar()
		switch {
		case t.Op == "neg" || t.Op == "add" || t.Op == "sub" || t.Op == "if" && i > 0:
			fits = sameDims(kid, form)
		case t.Op == "mul":
			fits = fits || kids[1-i].isScalar()
		case t.Op == "div" && i == 0:
			fits = true
		}
		need(fits, api.ErrDim)
	}
	a := array{dims: form.dims}
	for i := range form.elements {
		x := api.Tree{Op: t.Op, Text: t.Text}
		for _, kid := range kids {
			x.Kids = append(x.Kids, kid.at(i))
		}
		a.elements = append(a.elements, x)
	}
	return a
}

func constant(t api.Tree) bool {
	return strings.Contains(" num neg add sub mul div ", " "+t.Op+" ") && !slices.ContainsFunc(t.Kids, func(kid api.Tree) bool { return !constant(kid) })
}

// path returns the array of a ref where it is a path: each part makes of each ref so far those that go on with it.
func (o oracle) path(t api.Tree) array {
	var names []string
	for _, part := range t.Kids {
		names = append(names, part.Text)
	}
	dims, ok := o.paths[strings.Join(names, ".")]
	need(ok, api.ErrName)
	a := array{nil, one(node("ref"))}
	for i, part := range t.Kids {
		indices := [][]int{nil}
		switch {
		case len(part.Kids) == 0:
			a.dims = append(slices.Clone(a.dims), dims[i]...)
			indices = indicesOf(dims[i])
		default:
			need(len(part.Kids) == len(dims[i]), api.ErrDim)
			for j, kid := range part.Kids {
				v := o.value(kid)
				need(v >= 1 && v <= dims[i][j], api.ErrArg)
				indices[0] = append(indices[0], v)
			}
		}
		var longer []api.Tree
		for _, x := range a.elements {
			for _, index := range indices {
				last := api.Tree{Op: "part", Text: part.Text}
				for _, k := range index {
					last.Kids = append(last.Kids, number(k))
				}
				longer = append(longer, node("ref", append(slices.Clone(x.Kids), last)...))
			}
		}
		a.elements = longer
	}
	need(len(a.dims) <= 4, api.ErrDim)
	return a
}

// value returns the value of a whole expression.
func (o oracle) value(t api.Tree) int {
	v := o.fraction(t)
	need(v.IsInt(), api.ErrArg)
	need(v.Num().IsInt64(), api.ErrSize)
	n := v.Num().Int64()
	need(n >= -1000000 && n <= 1000000, api.ErrSize)
	return int(n)
}

func (o oracle) fraction(t api.Tree) *big.Rat {
	switch t.Op {
	case "num":
		need(!strings.Contains(t.Text, "/"), api.ErrType)
		v, _ := new(big.Rat).SetString(t.Text)
		return v
	case "ref":
		v, ok := o.wholes[t.Kids[0].Text]
		need(ok && len(t.Kids) == 1 && len(t.Kids[0].Kids) == 0, api.ErrType)
		return big.NewRat(int64(v), 1)
	case "size":
		a := o.path(t.Kids[0])
		k := o.value(t.Kids[1])
		need(1 <= k && k <= len(a.dims), api.ErrArg)
		return big.NewRat(int64(a.dims[k-1]), 1)
	case "if":
		if o.truth(t.Kids[0]) {
			return o.fraction(t.Kids[1])
		}
		return o.fraction(t.Kids[2])
	}
	need(strings.Contains(" neg add sub mul div ", " "+t.Op+" "), api.ErrType)
	list := []*big.Rat{new(big.Rat)}
	for _, kid := range t.Kids {
		list = append(list, big.NewRat(int64(o.value(kid)), 1))
	}
	a, b := list[len(list)-2], list[len(list)-1]
	switch t.Op {
	case "add":
		return a.Add(a, b)
	case "mul":
		return a.Mul(a, b)
	case "div":
		need(b.Sign() != 0, api.ErrZero)
		return a.Quo(a, b)
	}
	return a.Sub(a, b)
}

func (o oracle) truth(t api.Tree) bool {
	switch t.Op {
	case "true", "false":
		return t.Op == "true"
	case "not":
		return !o.truth(t.Kids[0])
	case "and", "or":
		a, b := o.truth(t.Kids[0]), o.truth(t.Kids[1])
		return t.Op == "and" && a && b || t.Op == "or" && (a || b)
	}
	need(strings.Contains(" less atmost more atleast equal unequal ", " "+t.Op+" "), api.ErrType)
	a, b := o.value(t.Kids[0]), o.value(t.Kids[1])
	return map[string]bool{"less": a < b, "atmost": a <= b, "more": a > b, "atleast": a >= b, "equal": a == b, "unequal": a != b}[t.Op]
}

func size(t api.Tree) int {
	n := 1
	for _, kid := range t.Kids {
		n += size(kid)
	}
	return n
}

func depth(t api.Tree) int {
	n := 0
	for _, kid := range t.Kids {
		n = max(n, depth(kid))
	}
	return n + 1
}

func isTooLarge(t api.Tree) bool {
	return size(t) > api.MaxTree || depth(t) > api.MaxDepth
}

func TestOracleValue(t *testing.T) {
	s := source(81)
	seen := map[api.Errno]int{}
	for range 10000 {
		g := s.scene()
		v := g.below(20) - 10
		x := g.whole(v, g.below(5))
		if !syntax.IsExpr(x) {
			continue
		}
		if got, err := shape.Value(g.scope, x); got != v || err != api.OK {
			t.Fatalf("Value(%v, %s) = %d, %d, want %d", g.scope, shown(x), got, err, v)
		}
		x = g.changed(x)
		want := 0
		o := oracleOf(g.scope)
		e := failed(func() { want = o.value(x) })
		if got, err := shape.Value(g.scope, x); got != want || err != e {
			t.Fatalf("Value(%v, %s) = %d, %d, want %d, %d", g.scope, shown(x), got, err, want, e)
		}
		seen[e]++
	}
	for e, least := range map[api.Errno]int{api.OK: 1000, api.ErrType: 1000, api.ErrZero: 150, api.ErrArg: 250, api.ErrSize: 150, api.ErrName: 25, api.ErrDim: 10} {
		if seen[e] < least {
			t.Errorf("the error %d: %d", e, seen[e])
		}
	}
}

func TestOracleElement(t *testing.T) {
	s := source(82)
	seen := map[api.Errno]int{}
	ops := map[string]int{}
	for i := range 20000 {
		g := s.scene()
		x := g.expr(g.dims(), g.below(5))
		if !syntax.IsExpr(x) {
			continue
		}
		if i%2 > 0 {
			x = g.changed(x)
		}
		o := oracleOf(g.scope)
		var want array
		e := failed(func() { want = o.array(x) })
		d, err := shape.Shape(g.scope, x)
		if !slices.Equal(d, want.dims) || err != e {
			t.Fatalf("Shape(%v, %s) = %v, %d, want %v, %d", g.scope, shown(x), d, err, want.dims, e)
		}
		if i%2 == 0 && e != api.OK {
			t.Fatalf("Shape(%v, %s): %d", g.scope, shown(x), err)
		}
		seen[e]++
		ops[x.Op]++
		for i, index := range indicesOf(want.dims) {
			if e != api.OK {
				break
			}
			element, err := shape.Element(g.scope, x, index)
			if isTooLarge(want.elements[i]) {
				if err != api.ErrSize {
					t.Fatalf("Element(%v, %s, %v): %d", g.scope, shown(x), index, err)
				}
				seen[api.ErrSize]++
				continue
			}
			if !same(element, want.elements[i]) || err != api.OK {
				t.Fatalf("Element(%v, %s, %v) = %s, %d, want %s", g.scope, shown(x), index, shown(element), err, shown(want.elements[i]))
			}
		}
	}
	for e, least := range map[api.Errno]int{api.OK: 5000, api.ErrType: 200, api.ErrZero: 15, api.ErrArg: 100, api.ErrSize: 50, api.ErrName: 500, api.ErrDim: 1000} {
		if seen[e] < least {
			t.Errorf("the error %d: %d", e, seen[e])
		}
	}
	for _, op := range []string{"num", "ref", "der", "sum", "size", "list", "neg", "add", "mul", "div", "if", "less", "and", "not"} {
		if ops[op] < 20 {
			t.Errorf("%s: %d", op, ops[op])
		}
	}
}

// A second way to lines: by calls of the other functions, with the variables of loops put into the scope.
type unrolled struct {
	lines  []api.Line
	rounds int
}

// with returns a scope with a whole number.
func with(s api.Scope, word string, v int) api.Scope {
	others := slices.DeleteFunc(slices.Clone(s.Wholes), func(w api.Whole) bool { return w.Name == word })
	return inOrder(api.Scope{Paths: s.Paths, Wholes: append(others, api.Whole{Name: word, Value: v})})
}

func (u *unrolled) body(s api.Scope, name string, list []api.Stmt) {
	list = slices.Clone(list)
	slices.SortStableFunc(list, func(a, b api.Stmt) int {
		one, _ := syntax.Line(a)
		other, _ := syntax.Line(b)
		return strings.Compare(one, other)
	})
	for i, x := range list {
		u.stmt(s, name+"."+strconv.Itoa(i+1), x)
	}
}

func valueIn(s api.Scope, x api.Tree) int {
	v, err := shape.Value(s, x)
	need(err == api.OK, err)
	return v
}

func (u *unrolled) stmt(s api.Scope, name string, x api.Stmt) {
	switch x.Kind {
	case "for":
		from := valueIn(s, x.From[0])
		for v := range max(0, valueIn(s, x.To[0])-from+1) {
			u.rounds++
			need(u.rounds <= 4000, api.ErrSize)
			u.body(with(s, x.Var, from+v), name+"["+strconv.Itoa(from+v)+"]", x.Body)
		}
	case "if":
		v, err := shape.Value(s, x.Cond[0])
		if x.Cond[0].Op != "ref" || err != api.OK {
			v = valueIn(s, node("if", x.Cond[0], number(1), number(0)))
		}
		if v != 0 {
			u.body(s, name, x.Body)
		} else {
			u.body(s, name, x.Else)
		}
	case "when":
		line := api.Stmt{Kind: "when"}
		large := false
		_, line.Cond = arrayIn(s, x.Cond[0], false, true, &large)
		for _, act := range x.Body {
			made := api.Stmt{Kind: act.Kind}
			_, made.Left = arrayIn(s, act.Left[0], true, true, &large)
			_, made.Right = arrayIn(s, act.Right[0], false, true, &large)
			line.Body = append(line.Body, made)
		}
		u.add(name, line, large)
	default:
		u.pairs(s, name, x)
	}
}

func (u *unrolled) pairs(s api.Scope, name string, x api.Stmt) {
	large := make([]bool, 2)
	d, left := arrayIn(s, x.Left[0], x.Kind == "connect", false, &large[0])
	other, right := arrayIn(s, x.Right[0], x.Kind == "connect", false, &large[1])
	need(slices.Equal(d, other), api.ErrDim)
	for i, index := range indicesOf(d) {
		text := ""
		for _, k := range index {
			text += "," + strconv.Itoa(k)
		}
		if text != "" {
			text = "[" + text[1:] + "]"
		}
		u.add(name+text, api.Stmt{Kind: x.Kind, Left: one(left[i]), Right: one(right[i])}, left[i].Op == "" || right[i].Op == "")
	}
}

// arrayIn returns the shape and all elements of a side of a statement; of those that are too large an empty tree.
func arrayIn(s api.Scope, x api.Tree, isPath, isScalar bool, large *bool) ([]int, []api.Tree) {
	if isPath {
		x = node("der", x)
	}
	d, err := shape.Shape(s, x)
	need(err == api.OK, err)
	need(len(d) == 0 || !isScalar, api.ErrDim)
	var list []api.Tree
	for _, index := range indicesOf(d) {
		e, err := shape.Element(s, x, index)
		*large = *large || err == api.ErrSize
		if isPath {
			e = e.Kids[0]
		}
		list = append(list, e)
	}
	return d, list
}

func (u *unrolled) add(name string, x api.Stmt, large bool) {
	need(len(name) <= api.MaxName && !strings.Contains(name, "-"), api.ErrForm)
	need(!large && len(u.lines) < 400, api.ErrSize)
	u.lines = append(u.lines, api.Line{Name: name, Stmt: x})
}

func TestOracleUnroll(t *testing.T) {
	s := source(83)
	seen := map[api.Errno]int{}
	kinds := map[string]int{}
	for i := range 4000 {
		g := s.scene()
		x := g.stmt(3)
		if i%2 > 0 {
			x = clone(x)
			g.changeStmt(&x)
		}
		if _, err := syntax.Line(x); err != api.OK {
			continue
		}
		name := pick(&s, "e", "e.k[1,2]", strings.Repeat("e", 74))
		u := &unrolled{}
		e := failed(func() { u.stmt(g.scope, name, x) })
		if e != api.OK {
			u.lines = nil
		}
		got, err := shape.Unroll(g.scope, name, x)
		if !same(got, u.lines) || err != e {
			text, _ := syntax.Line(x)
			t.Fatalf("Unroll(%v, %s, %s) = %q, %d, want %q, %d", g.scope, name, text, lines(got), err, lines(u.lines), e)
		}
		seen[e]++
		if e == api.OK && len(got) > 1 {
			kinds[x.Kind]++
		}
	}
	for e, least := range map[api.Errno]int{api.OK: 1500, api.ErrForm: 60, api.ErrType: 30, api.ErrZero: 3, api.ErrArg: 15, api.ErrName: 60, api.ErrDim: 60} {
		if seen[e] < least {
			t.Errorf("the error %d: %d", e, seen[e])
		}
	}
	for _, kind := range []string{"equal", "connect", "for", "if"} {
		if kinds[kind] < 50 {
			t.Errorf("%s: %d", kind, kinds[kind])
		}
	}
}

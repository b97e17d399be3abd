package shape_test

import (
	"encoding/json"
	"fmt"
	"reflect"
	"slices"
	"strconv"
	"strings"
	"testing"

	"linkwork/api"
	"linkwork/shape"
	"linkwork/syntax"
)

// scopeOf returns the scope that a text lists: paths with the dimensions of their words (`p[2].x[3]`), and whole
// numbers (`n=2`).
func scopeOf(text string) api.Scope {
	var s api.Scope
	for _, item := range strings.Fields(text) {
		if word, value, ok := strings.Cut(item, "="); ok {
			v, _ := strconv.Atoi(value)
			s.Wholes = append(s.Wholes, api.Whole{Name: word, Value: v})
			continue
		}
		var p api.Path
		for i, part := range strings.Split(item, ".") {
			word, list, _ := strings.Cut(strings.TrimSuffix(part, "]"), "[")
			if i > 0 {
				p.Name += "."
			}
			p.Name += word
			var numbers []int
			for _, number := range strings.FieldsFunc(list, func(r rune) bool { return r == ',' }) {
				n, _ := strconv.Atoi(number)
				numbers = append(numbers, n)
			}
			p.Dims = append(p.Dims, numbers)
		}
		s.Paths = append(s.Paths, p)
	}
	return inOrder(s)
}

func inOrder(s api.Scope) api.Scope {
	slices.SortFunc(s.Paths, func(a, b api.Path) int { return strings.Compare(a.Name, b.Name) })
	slices.SortFunc(s.Wholes, func(a, b api.Whole) int { return strings.Compare(a.Name, b.Name) })
	return s
}

// usual is a scope with paths of all kinds; n and p are whole numbers, too.
func usual() api.Scope {
	return scopeOf(`a b[0] c[0,2] n p[2] p[2].n p[2].q p[2].x[3] s[2,2] s[2,2].t[2,3] s[2,2].t[2,3].u[2]
		x[3] y[2,2] z[12,12] big=1000000 k=0 low=-1000000 m=-3 n=2 p=1`)
}

func expr(t *testing.T, text string) api.Tree {
	t.Helper()
	x, err := syntax.Expr(text)
	if err != api.OK {
		t.Fatalf("Expr(%q): %d", text, err)
	}
	return x
}

func stmt(t *testing.T, text string) api.Stmt {
	t.Helper()
	list, err := syntax.Parse("model A equation " + text + " end A;")
	if err != api.OK || len(list) != 1 || len(list[0].Eqs) != 1 {
		t.Fatalf("Parse(%q): %d", text, err)
	}
	return list[0].Eqs[0]
}

// shown returns the text of an expression without blanks.
func shown(x api.Tree) string {
	text, err := syntax.Show(x)
	if err != api.OK {
		return fmt.Sprintf("%+v", x)
	}
	return strings.ReplaceAll(text, " ", "")
}

// line returns the text of a line, with its name.
func line(l api.Line) string {
	text, err := syntax.Line(l.Stmt)
	if err != api.OK {
		text = fmt.Sprintf("%+v", l.Stmt)
	}
	return l.Name + ": " + text
}

func lines(list []api.Line) []string {
	var texts []string
	for _, l := range list {
		texts = append(texts, line(l))
	}
	return texts
}

func node(op string, kids ...api.Tree) api.Tree {
	return api.Tree{Op: op, Kids: kids}
}

func number(v int) api.Tree {
	if v < 0 {
		return node("neg", number(-v))
	}
	return api.Tree{Op: "num", Text: strconv.Itoa(v)}
}

// ref returns the ref of words with `.` between.
func ref(path string) api.Tree {
	t := node("ref")
	for _, word := range strings.Split(path, ".") {
		t.Kids = append(t.Kids, api.Tree{Op: "part", Text: word})
	}
	return t
}

func one(x api.Tree) []api.Tree {
	return []api.Tree{x}
}

// endless returns a tree that is its own kid.
func endless() api.Tree {
	t := node("not", node("true"))
	t.Kids[0] = t
	return t
}

// badTrees returns trees that are no expressions, or too large ones.
func badTrees() map[string]api.Tree {
	deep := node("true")
	for range api.MaxDepth {
		deep = node("not", deep)
	}
	wide := node("list", slices.Repeat(one(node("list", slices.Repeat(one(ref("x")), 10)...)), 10)...)
	return map[string]api.Tree{
		"nothing":       {},
		"a string":      {Op: "string", Text: "m"},
		"a part":        {Op: "part", Text: "x"},
		"no part":       node("ref"),
		"a fraction":    {Op: "num", Text: "1/3"},
		"a negative":    {Op: "num", Text: "-1"},
		"a keyword":     ref("end"),
		"no kid":        node("neg"),
		"too many kids": node("add", number(1), number(1), number(1)),
		"an empty list": node("list"),
		"der of num":    node("der", number(1)),
		"too deep":      deep,
		"too many":      wide,
		"endless":       endless(),
	}
}

// badScopes returns scopes that are none, or too large ones, with the error that they have.
func badScopes() map[string]struct {
	scope api.Scope
	err   api.Errno
} {
	type bad = struct {
		scope api.Scope
		err   api.Errno
	}
	return map[string]bad{
		"malformed":           {scopeOf("x[13]"), api.ErrForm},
		"too many paths":      {numbered(401, 0), api.ErrSize},
		"too many wholes":     {numbered(0, 101), api.ErrSize},
		"too long a path":     {scopeOf("x a.b.c.d.e.f.g.h.i"), api.ErrSize},
		"malformed, too many": {api.Scope{Paths: numbered(401, 0).Paths, Wholes: []api.Whole{{Name: "1"}}}, api.ErrForm},
	}
}

// numbered returns a scope with so many paths and whole numbers.
func numbered(paths, wholes int) api.Scope {
	var s api.Scope
	for i := range paths {
		s.Paths = append(s.Paths, api.Path{Name: "p" + strconv.Itoa(i), Dims: [][]int{{1}}})
	}
	for i := range wholes {
		s.Wholes = append(s.Wholes, api.Whole{Name: "w" + strconv.Itoa(i), Value: i})
	}
	return inOrder(s)
}

// same compares all of two values, but that a list may be nil or empty.
func same(a, b any) bool {
	return fmt.Sprintf("%q", a) == fmt.Sprintf("%q", b)
}

// clone returns a copy that shares no memory.
func clone[T any](x T) T {
	text, err := json.Marshal(x)
	if err != nil {
		panic(err)
	}
	var copied T
	if err := json.Unmarshal(text, &copied); err != nil {
		panic(err)
	}
	return copied
}

// lists adds the places of all lists in a value; false if one of them is there already.
func lists(v reflect.Value, places map[uintptr]bool) bool {
	apart := true
	switch v.Kind() {
	case reflect.Slice:
		if v.Cap() > 0 {
			apart = !places[v.Pointer()]
			places[v.Pointer()] = true
		}
		for i := range v.Len() {
			apart = lists(v.Index(i), places) && apart
		}
	case reflect.Struct:
		for i := range v.NumField() {
			apart = lists(v.Field(i), places) && apart
		}
	}
	return apart
}

// isNew reports whether no two lists of results share memory, nor does one with a list of the arguments.
func isNew(results any, arguments ...any) bool {
	places := make(map[uintptr]bool)
	for _, x := range arguments {
		lists(reflect.ValueOf(x), places)
	}
	return lists(reflect.ValueOf(results), places)
}

// elements returns all elements of an expression, in the order of their indices; false if one of them is too large.
func elements(t *testing.T, s api.Scope, x api.Tree) ([]api.Tree, bool) {
	t.Helper()
	d, err := shape.Shape(s, x)
	if err != api.OK {
		t.Fatalf("Shape(%s): %d", shown(x), err)
	}
	var list []api.Tree
	for _, index := range indicesOf(d) {
		e, err := shape.Element(s, x, index)
		if err == api.ErrSize {
			return nil, false
		}
		if err != api.OK {
			t.Fatalf("Element(%s, %v): %d", shown(x), index, err)
		}
		list = append(list, e)
	}
	return list, true
}

// indicesOf returns all indices of a shape, by counting up from the last number.
func indicesOf(d []int) [][]int {
	count := 1
	for _, n := range d {
		count *= n
	}
	var all [][]int
	for at := range count {
		index := make([]int, len(d))
		for i := len(d) - 1; i >= 0; i-- {
			index[i] = at%d[i] + 1
			at /= d[i]
		}
		all = append(all, index)
	}
	return all
}

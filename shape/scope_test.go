package shape_test

import (
	"strings"
	"testing"

	"linkwork/api"
	"linkwork/shape"
)

func TestCheck(t *testing.T) {
	path := func(name string, dims ...[]int) api.Scope {
		return api.Scope{Paths: []api.Path{{Name: name, Dims: dims}}}
	}
	whole := func(name string, value int) api.Scope {
		return api.Scope{Wholes: []api.Whole{{Name: name, Value: value}}}
	}
	many := func(n int) [][]int { return make([][]int, n) }
	words := func(n int) string { return strings.TrimSuffix(strings.Repeat("ab.", n), ".") }
	for what, x := range map[string]struct {
		scope api.Scope
		err   api.Errno
	}{
		"nothing":                     {api.Scope{}, api.OK},
		"the usual one":               {usual(), api.OK},
		"a scalar":                    {path("x", nil), api.OK},
		"two dimensions":              {path("x", []int{12, 12}), api.OK},
		"no elements":                 {path("x", []int{0, 0}), api.OK},
		"three dimensions":            {path("x", []int{1, 1, 1}), api.ErrForm},
		"too many elements":           {path("x", []int{13}), api.ErrForm},
		"too many in the second one":  {path("x", []int{12, 13}), api.ErrForm},
		"too few elements":            {path("x", []int{-1}), api.ErrForm},
		"dimensions of no word":       {path("x", nil, nil), api.ErrForm},
		"a word without dimensions":   {path("x.y", nil), api.ErrForm},
		"no dimensions":               {path("x"), api.ErrForm},
		"bad dimensions further on":   {path("x.y.z", nil, []int{1}, []int{1, 13}), api.ErrForm},
		"no name":                     {path("", nil), api.ErrForm},
		"no name, no dimensions":      {path(""), api.ErrForm},
		"no first word":               {path(".x", nil, nil), api.ErrForm},
		"no last word":                {path("x.", nil, nil), api.ErrForm},
		"no word between":             {path("x..y", nil, nil, nil), api.ErrForm},
		"a keyword":                   {path("x.end", nil, nil), api.ErrForm},
		"an index":                    {path("x[1]", nil), api.ErrForm},
		"a blank":                     {path("x. y", nil, nil), api.ErrForm},
		"a digit first":               {path("1x", nil), api.ErrForm},
		"a long word":                 {path(strings.Repeat("x", 20), nil), api.OK},
		"too long a word":             {path(strings.Repeat("x", 21), nil), api.ErrForm},
		"eight words":                 {path(words(8), many(8)...), api.OK},
		"eight long words":            {path(strings.TrimSuffix(strings.Repeat(strings.Repeat("x", 20)+".", 8), "."), many(8)...), api.OK},
		"nine words":                  {path(words(9), many(9)...), api.ErrSize},
		"very many words":             {path(words(1000), many(1000)...), api.ErrSize},
		"nine words, one is none":     {path(words(8)+".", many(9)...), api.ErrForm},
		"the greatest whole number":   {whole("n", 1000000), api.OK},
		"the least whole number":      {whole("n", -1000000), api.OK},
		"too great a whole number":    {whole("n", 1000001), api.ErrForm},
		"too little a whole number":   {whole("n", -1000001), api.ErrForm},
		"a whole number with a path":  {whole("n.m", 1), api.ErrForm},
		"a whole number without name": {whole("", 1), api.ErrForm},
		"a whole number for a key":    {whole("for", 1), api.ErrForm},
		"a word in both":              {scopeOf("n n=1"), api.OK},
		"400 paths, 100 wholes":       {numbered(400, 100), api.OK},
		"401 paths":                   {numbered(401, 0), api.ErrSize},
		"101 wholes":                  {numbered(0, 101), api.ErrSize},
		"401 paths, one malformed":    {api.Scope{Paths: append(numbered(401, 0).Paths, api.Path{Name: "q"})}, api.ErrForm},
		"101 wholes, a path is none":  {api.Scope{Paths: []api.Path{{}}, Wholes: numbered(0, 101).Wholes}, api.ErrForm},
		"a path without its first":    {scopeOf("x.y.z"), api.OK},
		"other dimensions of a word":  {scopeOf("x[1] x[2].y"), api.OK},
	} {
		if err := shape.Check(x.scope); err != x.err {
			t.Errorf("%s: Check = %d, want %d", what, err, x.err)
		}
	}
}

func TestCheckRising(t *testing.T) {
	for _, x := range []struct {
		names string
		err   api.Errno
	}{
		{"x y", api.OK},
		{"y x", api.ErrForm},
		{"x x", api.ErrForm},
		{"p p.q p1", api.OK}, // by their bytes
		{"p p1 p.q", api.ErrForm},
		{"X a", api.OK},
		{"a X", api.ErrForm},
		{"a b c d c", api.ErrForm},
	} {
		var paths, wholes api.Scope
		for _, name := range strings.Fields(x.names) {
			paths.Paths = append(paths.Paths, api.Path{Name: name, Dims: make([][]int, 1+strings.Count(name, "."))})
			wholes.Wholes = append(wholes.Wholes, api.Whole{Name: strings.ReplaceAll(name, ".", "0")})
		}
		if err := shape.Check(paths); err != x.err {
			t.Errorf("paths %s: Check = %d, want %d", x.names, err, x.err)
		}
		if err := shape.Check(wholes); err != x.err {
			t.Errorf("whole numbers %s: Check = %d, want %d", x.names, err, x.err)
		}
	}
}

// All functions return the errors of a scope first.
func TestScopeFirst(t *testing.T) {
	bad := api.Tree{Op: "num", Text: "x"}
	for what, x := range badScopes() {
		if err := shape.Check(x.scope); err != x.err {
			t.Errorf("%s: Check = %d, want %d", what, err, x.err)
		}
		for _, tree := range []api.Tree{number(1), bad, ref("unknown")} {
			if v, err := shape.Value(x.scope, tree); v != 0 || err != x.err {
				t.Errorf("%s: Value = %d, %d, want %d", what, v, err, x.err)
			}
			if d, err := shape.Shape(x.scope, tree); len(d) > 0 || err != x.err {
				t.Errorf("%s: Shape = %v, %d, want %d", what, d, err, x.err)
			}
			if e, err := shape.Element(x.scope, tree, []int{1}); !same(e, api.Tree{}) || err != x.err {
				t.Errorf("%s: Element = %v, %d, want %d", what, e, err, x.err)
			}
			s := api.Stmt{Kind: "equal", Left: one(tree), Right: one(tree)}
			for _, name := range []string{"e", ""} {
				if l, err := shape.Unroll(x.scope, name, s); len(l) > 0 || err != x.err {
					t.Errorf("%s: Unroll = %v, %d, want %d", what, l, err, x.err)
				}
			}
		}
	}
}

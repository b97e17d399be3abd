package shape_test

import (
	"strings"
	"testing"

	"linkwork/api"
	"linkwork/shape"
)

func TestElement(t *testing.T) {
	for _, x := range []struct{ text, elements string }{
		// what stays
		{"1.5", "1.5"}, {"true", "true"}, {"false", "false"}, {"time", "time"}, {"initial()", "initial()"}, {"a", "a"},
		{"sample(1 + 1, 2 * 3)", "sample(1+1,2*3)"}, {"sample(1 / 0, -1)", "sample(1/0,-1)"}, {"der(a)", "der(a)"},
		// whole numbers, and size
		{"n", "2"}, {"m", "-3"}, {"k", "0"}, {"low", "-1000000"}, {"p", "1"}, {"size(x, 1)", "3"}, {"size(b, 1)", "0"}, {"size(p, n - 1)", "2"},
		{"n + m", "2+(-3)"}, {"-m", "-(-3)"}, {"a * m", "a*(-3)"}, {"size(y, 1) - k", "2-0"},
		// refs
		{"x", "x[1] x[2] x[3]"}, {"b", ""}, {"c", ""}, {"y", "y[1,1] y[1,2] y[2,1] y[2,2]"},
		{"p.q", "p[1].q p[2].q"}, {"p.x", "p[1].x[1] p[1].x[2] p[1].x[3] p[2].x[1] p[2].x[2] p[2].x[3]"},
		{"p[n].x", "p[2].x[1] p[2].x[2] p[2].x[3]"}, {"p.x[n]", "p[1].x[2] p[2].x[2]"}, {"p[1].x[2]", "p[1].x[2]"},
		{"x[n]", "x[2]"}, {"x[-m]", "x[3]"}, {"x[size(p, 1)]", "x[2]"}, {"x[if n > 1 then n - 1 else 1/0]", "x[1]"}, {"y[p,n]", "y[1,2]"},
		{"p.n", "p[1].n p[2].n"}, {"s[1,2].t[1,1].u", "s[1,2].t[1,1].u[1] s[1,2].t[1,1].u[2]"},
		{"s.t[1,3]", "s[1,1].t[1,3] s[1,2].t[1,3] s[2,1].t[1,3] s[2,2].t[1,3]"},
		// a path, though a whole number, too
		{"der(n)", "der(n)"}, {"pre(p)", "pre(p[1]) pre(p[2])"}, {"der(p[n - p])", "der(p[1])"},
		{"der(x)", "der(x[1]) der(x[2]) der(x[3])"}, {"pre(x[n])", "pre(x[2])"}, {"der(p.x[2])", "der(p[1].x[2]) der(p[2].x[2])"},
		// sums
		{"sum(x)", "x[1]+x[2]+x[3]"}, {"sum(y)", "y[1,1]+y[1,2]+y[2,1]+y[2,2]"}, {"sum(b)", "0"}, {"sum(c)", "0"}, {"sum({a})", "a"}, {"sum({{m}})", "-3"},
		{"sum(2 * x)", "2*x[1]+2*x[2]+2*x[3]"}, {"a - sum(x)", "a-(x[1]+x[2]+x[3])"},
		{"sum({sum(x), a})", "x[1]+x[2]+x[3]+a"}, {"sum({a, sum(x)})", "a+(x[1]+x[2]+x[3])"}, {"sum(x) / sum(x)", "(x[1]+x[2]+x[3])/(x[1]+x[2]+x[3])"},
		// lists
		{"{1, n, a}", "1 2 a"}, {"{x, -x}", "x[1] x[2] x[3] -x[1] -x[2] -x[3]"}, {"{{1, 2}, {3, 4}}", "1 2 3 4"}, {"{b, b}", ""}, {"{{{a}}}", "a"},
		{"{sum(x), size(x, 1)}", "x[1]+x[2]+x[3] 3"}, {"{true, 1 < a}", "true 1<a"},
		// operators
		{"-x", "-x[1] -x[2] -x[3]"}, {"x + {1, 2, 3}", "x[1]+1 x[2]+2 x[3]+3"}, {"{1, 2} - p.q", "1-p[1].q 2-p[2].q"},
		{"n * x", "2*x[1] 2*x[2] 2*x[3]"}, {"x * m", "x[1]*(-3) x[2]*(-3) x[3]*(-3)"}, {"sum(p.q) * {1, 2}", "(p[1].q+p[2].q)*1 (p[1].q+p[2].q)*2"},
		{"x / n", "x[1]/2 x[2]/2 x[3]/2"}, {"{a, 1} / sum(p.q)", "a/(p[1].q+p[2].q) 1/(p[1].q+p[2].q)"}, {"a * n", "a*2"}, {"a / size(x, 1)", "a/3"},
		{"if a > n then x else -x", "ifa>2thenx[1]else-x[1] ifa>2thenx[2]else-x[2] ifa>2thenx[3]else-x[3]"},
		{"if sum(x) > 1 then n else size(x, 1)", "ifx[1]+x[2]+x[3]>1then2else3"}, {"if true then 1 else 2", "iftruethen1else2"},
		{"n < sum(p.q)", "2<p[1].q+p[2].q"}, {"a <= m", "a<=-3"}, {"x[n] > 1", "x[2]>1"}, {"n >= 1", "2>=1"}, {"n == 2", "2==2"}, {"n <> m", "2<>-3"},
		{"n > 1 and a > n", "2>1anda>2"}, {"a or x[n] > m", "aorx[2]>-3"}, {"not x[n] > m", "notx[2]>-3"},
	} {
		list, ok := elements(t, usual(), expr(t, x.text))
		var texts []string
		for _, e := range list {
			texts = append(texts, shown(e))
		}
		if got := strings.Join(texts, " "); got != x.elements || !ok {
			t.Errorf("the elements of %s: %s, want %s", x.text, got, x.elements)
		}
	}
}

func TestElementIndex(t *testing.T) {
	for _, x := range []struct {
		text  string
		index []int
		err   api.Errno
	}{
		{"a", nil, api.OK}, {"a", []int{}, api.OK}, {"a", []int{1}, api.ErrArg}, {"n", []int{0}, api.ErrArg}, {"sum(x)", []int{1}, api.ErrArg},
		{"x", nil, api.ErrArg}, {"x", []int{0}, api.ErrArg}, {"x", []int{1}, api.OK}, {"x", []int{3}, api.OK}, {"x", []int{4}, api.ErrArg}, {"x", []int{-1}, api.ErrArg},
		{"x", []int{1, 1}, api.ErrArg}, {"b", []int{1}, api.ErrArg}, {"b", []int{0}, api.ErrArg}, {"b", nil, api.ErrArg}, {"c", []int{0, 1}, api.ErrArg},
		{"p.x", []int{2, 3}, api.OK}, {"p.x", []int{3, 2}, api.ErrArg}, {"p.x", []int{2}, api.ErrArg}, {"p.x", []int{2, 4}, api.ErrArg}, {"p.x", []int{2, 3, 1}, api.ErrArg},
		{"s.t", []int{2, 2, 2, 3}, api.OK}, {"s.t", []int{2, 2, 3, 2}, api.ErrArg}, {"{x, x}", []int{3, 1}, api.ErrArg}, {"{x, x}", []int{2, 3}, api.OK},
		{"sample(0, 1)", []int{1}, api.ErrArg}, {"sample(0, 1)", nil, api.OK},
	} {
		e, err := shape.Element(usual(), expr(t, x.text), x.index)
		if err != x.err || err != api.OK && !same(e, api.Tree{}) {
			t.Errorf("Element(%s, %v) = %s, %d, want %d", x.text, x.index, shown(e), err, x.err)
		}
	}
}

// negated returns an expression with neg before it, so many times.
func negated(x api.Tree, times int) api.Tree {
	for range times {
		x = node("neg", x)
	}
	return x
}

// added returns the sum of so many times an expression, with few levels.
func added(x api.Tree, times int) api.Tree {
	if times == 1 {
		return x
	}
	return node("add", added(x, times/2), added(x, times-times/2))
}

func TestElementTooLarge(t *testing.T) {
	s := scopeOf("a v[11] w[12] z[12,12] zero[0,12] m=-1")
	v := ref("v")
	sums := expr(t, "sum(w * sum(w * sum(w * sum(w * sum(w * sum(w * sum(w * sum(w))))))))")
	for what, x := range map[string]struct {
		tree  api.Tree
		index []int
		err   api.Errno
	}{
		"200 trees":                     {node("neg", added(v, 50)), []int{1}, api.OK}, // each v has three as an element
		"201 trees":                     {negated(added(v, 50), 2), []int{1}, api.ErrSize},
		"201 trees, of fewer":           {node("add", added(v, 50), v), []int{11}, api.ErrSize},
		"fewer trees than there were":   {added(expr(t, "size(v, 1)"), 40), nil, api.OK},
		"24 levels":                     {negated(node("sum", v), 11), nil, api.OK},
		"25 levels":                     {negated(node("sum", v), 12), nil, api.ErrSize},
		"25 levels, of one element":     {negated(node("sum", node("list", ref("a"))), 20), nil, api.OK},
		"a sum of 12":                   {expr(t, "sum(w)"), nil, api.OK},
		"a sum of 24":                   {expr(t, "sum({w, w})"), nil, api.ErrSize},
		"a sum of 144":                  {expr(t, "sum(z)"), nil, api.ErrSize},
		"a sum of 144, not of its list": {expr(t, "{sum(z), a, sum(z)}"), []int{2}, api.OK},
		"a sum of 144 in a list":        {expr(t, "{sum(z), a, sum(z)}"), []int{3}, api.ErrSize},
		"a sum of 144 in a condition":   {expr(t, "if sum(z) > 1 then w else w"), []int{1}, api.ErrSize},
		"very many sums":                {sums, nil, api.ErrSize},
		"very many sums of none":        {node("sum", node("mul", ref("zero"), sums)), nil, api.OK},
		"one element of very many sums": {node("list", sums, ref("a")), []int{2}, api.OK},
	} {
		e, err := shape.Element(s, x.tree, x.index)
		if err != x.err || err != api.OK && !same(e, api.Tree{}) {
			t.Errorf("%s: Element = %s, %d, want %d", what, shown(e), err, x.err)
		}
	}
}

// Elements are new memory, and the arguments stay as they are.
func TestElementNew(t *testing.T) {
	for _, text := range []string{"-n * x + {1, 2, 3}", "if sum(x) > 1 then p.x[1 + 1] else {a, m}", "{sample(1 + 1, 2), 1 / a, der(a)}", "x[n] * y", "{time, initial(), sum({1})}"} {
		s, x := usual(), expr(t, text)
		list, ok := elements(t, s, x)
		again, _ := elements(t, s, x)
		if !ok || len(list) == 0 || !isNew([][]api.Tree{list, again}, s, x) {
			t.Errorf("the elements of %s share memory", text)
		}
		if !same(s, usual()) || !same(x, expr(t, text)) {
			t.Errorf("Element(%s) changed its arguments", text)
		}
	}
}

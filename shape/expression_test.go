package shape_test

import (
	"slices"
	"testing"

	"linkwork/api"
	"linkwork/shape"
)

func TestShape(t *testing.T) {
	for text, want := range map[string][]int{
		"1": nil, "1.5": nil, "true": nil, "false": nil, "time": nil, "initial()": nil, "sample(0, 1)": nil,
		"sample(-1/2 + 3 * 2, 2 - 1)": nil, "sample(1/0, 0)": nil, // nothing else is asked of it
		"size(x, 1)": nil, "n": nil, "p": nil, "m": nil,
		"a": nil, "x": {3}, "b": {0}, "c": {0, 2}, "y": {2, 2}, "z": {12, 12},
		"p.q": {2}, "p.x": {2, 3}, "p[1].x": {3}, "p.x[1]": {2}, "p[2].x[3]": nil, "s.t": {2, 2, 2, 3}, "s[1,2].t": {2, 3},
		"s.t[2,3]": {2, 2}, "s[1,1].t.u": {2, 3, 2}, "s.t[1,1].u": {2, 2, 2}, "p.n": {2}, "p[n].n": nil,
		"x[n]": nil, "x[-m]": nil, "x[size(p, 1)]": nil, "y[n,1]": nil, "x[if n > 1 then 1 else 1/0]": nil, "p[p].q": nil,
		"der(x)": {3}, "der(x[1])": nil, "pre(y)": {2, 2}, "der(n)": nil, "der(p)": {2}, "pre(p.n)": {2}, "pre(p[1])": nil,
		"sum(x)": nil, "sum(y)": nil, "sum(b)": nil, "sum(c)": nil, "sum({1})": nil, "sum({{1}})": nil, "sum(2 * p.x)": nil,
		"{1}": {1}, "{a, 1, n}": {3}, "{x, x}": {2, 3}, "{{1, 2}, {3, 4}, pre(p)}": {3, 2}, "{y, y, y}": {3, 2, 2}, "{{y}}": {1, 1, 2, 2},
		"{b}": {1, 0}, "{{{{1}}}}": {1, 1, 1, 1},
		"-x": {3}, "-1": nil, "x + x": {3}, "x - {1, 2, 3}": {3}, "p.x + {x, x}": {2, 3}, "1 + a": nil, "b + b": {0}, "s.t - s.t": {2, 2, 2, 3},
		"2 * x": {3}, "x * 2": {3}, "a * a": nil, "sum(x) * y": {2, 2}, "y * n": {2, 2}, "x / 2": {3}, "a / n": nil, "s.t / 2": {2, 2, 2, 3},
		"1 < a": nil, "a <= 1": nil, "a > 1": nil, "a >= 1": nil, "a == 1": nil, "true <> false": nil,
		"a and 1": nil, "true or n": nil, "not x[1]": nil,
		"if a then x else 2 * x": {3}, "if true then 1 else 2": nil, "if x[1] > 1 then y else -y": {2, 2},
	} {
		d, err := shape.Shape(usual(), expr(t, text))
		if !slices.Equal(d, want) || err != api.OK {
			t.Errorf("Shape(%s) = %v, %d, want %v", text, d, err, want)
		}
	}
}

func TestShapeErrors(t *testing.T) {
	for text, want := range map[string]api.Errno{
		// what is named is not there
		"unknown": api.ErrName, "p.unknown": api.ErrName, "x.y": api.ErrName, "p.q.q": api.ErrName, "q": api.ErrName, "s.u": api.ErrName,
		"der(m)": api.ErrName, "pre(big)": api.ErrName, "der(unknown)": api.ErrName, "size(m, 1)": api.ErrName, "m[1]": api.ErrName, "p.m": api.ErrName,
		"unknown[1/0]": api.ErrName, "unknown.x[1,2]": api.ErrName,
		// other numbers of kids than dimensions
		"a[1]": api.ErrDim, "x[1,1]": api.ErrDim, "y[1]": api.ErrDim, "n[1]": api.ErrDim, "p[1,1].x": api.ErrDim, "p.q[1]": api.ErrDim, "der(y[1])": api.ErrDim,
		"a[1/0]": api.ErrDim, "y[1/0]": api.ErrDim, "y[unknown]": api.ErrDim,
		// an index out of range
		"x[0]": api.ErrArg, "x[4]": api.ErrArg, "x[m]": api.ErrArg, "x[big]": api.ErrArg, "b[1]": api.ErrArg, "c[1,1]": api.ErrArg, "y[3,1]": api.ErrArg, "y[1,3]": api.ErrArg,
		"y[0,1/0]": api.ErrArg, "y[1/0,0]": api.ErrZero, "y[1,0]": api.ErrArg, "p[3].x[4/0]": api.ErrArg, "p[1].x[4/0]": api.ErrZero,
		"pre(x[4])": api.ErrArg, "c[0,2]": api.ErrArg,
		// an index that is no whole expression, or has no value
		"x[x[1]]": api.ErrType, "x[a]": api.ErrType, "x[1.5]": api.ErrType, "x[true]": api.ErrType, "x[time]": api.ErrType, "x[unknown]": api.ErrType, "x[x]": api.ErrType,
		"x[1/0]": api.ErrZero, "x[1/2]": api.ErrArg, "x[big + 1]": api.ErrSize, "x[size(x, 2)]": api.ErrArg, "x[size(unknown, 1)]": api.ErrName,
		"size(x, 2)": api.ErrArg, "size(x, 1/0)": api.ErrZero, "size(x, a)": api.ErrType, "size(x, big * 2)": api.ErrSize, "size(y[1], 1)": api.ErrDim,
		// part by part: the number of kids, then these
		"p[3].x[1,1]": api.ErrArg, "p[1].x[1,1]": api.ErrDim, "p[1,1].x[4]": api.ErrDim, "p[1/0].x[1,1]": api.ErrZero, "p.x[1,1]": api.ErrDim,
		// more than four dimensions, after all parts
		"s.t.u": api.ErrDim, "der(s.t.u)": api.ErrDim, "{s.t}": api.ErrDim, "{{s[1,1].t.u}}": api.ErrDim, "{{{{{1}}}}}": api.ErrDim, "s.t.u[3]": api.ErrArg, "s.t.u[1/0]": api.ErrZero,
		// sum
		"sum(1)": api.ErrDim, "sum(a)": api.ErrDim, "sum(n)": api.ErrDim, "sum(p[1].q)": api.ErrDim, "sum(s[1,1].t.u)": api.ErrDim, "sum(s.t)": api.ErrDim, "sum(sum(x))": api.ErrDim,
		// list
		"{1, x}": api.ErrDim, "{x, y}": api.ErrDim, "{x, x, 1}": api.ErrDim, "{{1, 2}, {1}}": api.ErrDim, "{x, {1, 2}}": api.ErrDim, "{b, {1}}": api.ErrDim,
		// operators
		"x + y": api.ErrDim, "x + 1": api.ErrDim, "1 - x": api.ErrDim, "x + {1, 2}": api.ErrDim, "b + x": api.ErrDim, "c + b": api.ErrDim,
		"x * x": api.ErrDim, "x * y": api.ErrDim, "b * b": api.ErrDim, "x / x": api.ErrDim, "1 / x": api.ErrDim,
		"x < 1": api.ErrDim, "1 <= x": api.ErrDim, "x > x": api.ErrDim, "1 >= b": api.ErrDim, "x == x": api.ErrDim, "1 <> y": api.ErrDim,
		"x and true": api.ErrDim, "true and x": api.ErrDim, "x or true": api.ErrDim, "true or x": api.ErrDim, "not x": api.ErrDim, "not b": api.ErrDim,
		"if x then 1 else 2": api.ErrDim, "if true then x else 1": api.ErrDim, "if true then x else y": api.ErrDim, "if b then x else x": api.ErrDim, "if true then b else c": api.ErrDim,
		// sample
		"sample(n, 1)": api.ErrType, "sample(1, n)": api.ErrType, "sample(time, 1)": api.ErrType, "sample(1, size(x, 1))": api.ErrType, "sample(1 + unknown, 1)": api.ErrType,
		"sample({1}, 1)": api.ErrType, "sample(1, if true then 1 else 2)": api.ErrType, "sample(true, 1)": api.ErrType, "sample(sum(x), 1)": api.ErrType, "sample(1, -(2 * a))": api.ErrType,
		// the first one: kids from the left to the right, a kid ahead of what it is in
		"{x, y, unknown}": api.ErrName, "x + y + unknown": api.ErrDim, "unknown + (x + y)": api.ErrName, "(x + y) * unknown": api.ErrDim, "x * (x[4] * unknown)": api.ErrArg,
		"not (x and unknown)": api.ErrName, "if x then unknown else x[9]": api.ErrName, "if x + y then unknown else 1": api.ErrDim, "if unknown then x + y else 1": api.ErrName,
		"sum(x[unknown])": api.ErrType, "x + sample(n, 1)": api.ErrType, "sample(n, 1) + unknown": api.ErrType, "unknown + sample(n, 1)": api.ErrName,
		"if true then 1 else unknown": api.ErrName, "false and x[9]": api.ErrArg, "{x[1/0], x[1/2]}": api.ErrZero,
	} {
		d, err := shape.Shape(usual(), expr(t, text))
		if len(d) > 0 || err != want {
			t.Errorf("Shape(%s) = %v, %d, want %d", text, d, err, want)
		}
		if e, err := shape.Element(usual(), expr(t, text), []int{9, 9, 9, 9, 9}); !same(e, api.Tree{}) || err != want {
			t.Errorf("Element(%s) = %v, %d, want %d", text, e, err, want)
		}
	}
	for what, x := range badTrees() {
		if d, err := shape.Shape(usual(), x); len(d) > 0 || err != api.ErrForm {
			t.Errorf("%s: Shape = %v, %d", what, d, err)
		}
		if e, err := shape.Element(usual(), x, []int{9}); !same(e, api.Tree{}) || err != api.ErrForm {
			t.Errorf("%s: Element = %v, %d", what, e, err)
		}
	}
}

// The shape is new memory, as is the next one.
func TestShapeNew(t *testing.T) {
	s := usual()
	for _, text := range []string{"x", "y", "p.x", "{x, x}", "der(x)"} {
		first, _ := shape.Shape(s, expr(t, text))
		second, _ := shape.Shape(s, expr(t, text))
		if !isNew([][]int{first, second}, s) {
			t.Errorf("Shape(%s) shares memory", text)
		}
		first[0] = 99
		if !same(s, usual()) {
			t.Fatalf("Shape(%s) gave a part of the scope", text)
		}
	}
}

package shape_test

import (
	"testing"

	"linkwork/api"
	"linkwork/shape"
)

func TestValue(t *testing.T) {
	for text, want := range map[string]int{
		"0": 0, "7": 7, "2.0": 2, "1000000": 1000000, "-1000000": -1000000,
		"n": 2, "m": -3, "k": 0, "big": 1000000, "low": -1000000,
		"-n": -2, "-m": 3, "n + m": -1, "n - m": 5, "n * m": -6, "6 / m": -2, "-6 / n": -3, "m / m": 1, "k / m": 0,
		"big - big + 1": 1, "big + low": 0, "1000 * 1000": 1000000, "-1000 * 1000": -1000000,
		"1 + 2 * 3 - 8 / 4": 5,
		"size(x, 1)":        3, "size(y, n)": 2, "size(z, 2)": 12, "size(b, 1)": 0, "size(c, 2)": 2,
		"size(p.x, 1)": 2, "size(p.x, 2)": 3, "size(p[n].x, 1)": 3, "size(p[p].x, k + 1)": 3,
		"size(p, 1)":                           2, // a path, though p is a whole number, too
		"size(s.t, 4)":                         3,
		"size(s[1,2].t,1)":                     2,
		"size(p, size(x, size(p, 1) - 1) / 3)": 2,
		"if true then 1 else 2":                1, "if false then 1 else 2": 2,
		"if 1 < 2 then n else m": 2, "if 2 < 2 then 1 else 0": 0, "if 2 < 1 then 1 else 0": 0,
		"if 1 <= 2 then 1 else 0": 1, "if 2 <= 2 then 1 else 0": 1, "if 2 <= 1 then 1 else 0": 0,
		"if 1 > 2 then 1 else 0": 0, "if 2 > 2 then 1 else 0": 0, "if 2 > 1 then 1 else 0": 1,
		"if 1 >= 2 then 1 else 0": 0, "if 2 >= 2 then 1 else 0": 1, "if 2 >= 1 then 1 else 0": 1,
		"if 1 == 2 then 1 else 0": 0, "if 2 == n then 1 else 0": 1, "if 2 == 1 then 1 else 0": 0,
		"if 1 <> 2 then 1 else 0": 1, "if 2 <> n then 1 else 0": 0, "if 2 <> 1 then 1 else 0": 1,
		"if true and true then 1 else 0": 1, "if true and false then 1 else 0": 0,
		"if false and true then 1 else 0": 0, "if false and false then 1 else 0": 0,
		"if true or true then 1 else 0": 1, "if true or false then 1 else 0": 1,
		"if false or true then 1 else 0": 1, "if false or false then 1 else 0": 0,
		"if not true then 1 else 0": 0, "if not false then 1 else 0": 1, "if not n < m and 1 == 1 then 1 else 0": 1,
		"1 + (if n > 1 then if m > 1 then 1 else 2 else 3)": 3,
		// of an if only the kids that are needed
		"if n > 1 then size(x, 1) * n else 1 / 0": 6,
		"if n < 1 then time else 1":               1,
		"if true then 1 else unknown":             1,
		"if true then 1 else 10000000":            1,
	} {
		if v, err := shape.Value(usual(), expr(t, text)); v != want || err != api.OK {
			t.Errorf("Value(%s) = %d, %d, want %d", text, v, err, want)
		}
	}
}

func TestValueErrors(t *testing.T) {
	for text, want := range map[string]api.Errno{
		// no whole expression
		"1.5": api.ErrType, "true": api.ErrType, "false": api.ErrType, "time": api.ErrType, "initial()": api.ErrType,
		"a": api.ErrType, "x": api.ErrType, "x[1]": api.ErrType, "p.q": api.ErrType, "unknown": api.ErrType,
		"n[1]": api.ErrType, "p[1]": api.ErrType, "p.n": api.ErrType, "n.n": api.ErrType,
		"der(n)": api.ErrType, "pre(n)": api.ErrType, "sum(x)": api.ErrType, "sample(1, 2)": api.ErrType, "{1}": api.ErrType,
		"1 < 2": api.ErrType, "1 == 2": api.ErrType, "true and true": api.ErrType, "true or true": api.ErrType, "not true": api.ErrType,
		"1 + true": api.ErrType, "-true": api.ErrType, "1 + (2 - (3 * (4 / time)))": api.ErrType,
		"if 1 then 2 else 3": api.ErrType, "if n then 2 else 3": api.ErrType, "if time < 1 then 2 else 3": api.ErrType,
		"if true then 1.5 else 3": api.ErrType, "if true then true else 3": api.ErrType,
		"if true == true then 2 else 3": api.ErrType, "if 1 and true then 2 else 3": api.ErrType, "if true or n then 2 else 3": api.ErrType,
		"if not 1 then 2 else 3": api.ErrType, "if (if true then true else false) then 2 else 3": api.ErrType,
		"if 1.5 < 2 then 2 else 3": api.ErrType, "if initial() then 2 else 3": api.ErrType,
		// of a size the errors of Shape, for its ref; whole numbers do not matter there
		"size(unknown, 1)": api.ErrName, "size(m, 1)": api.ErrName, "size(p.m, 1)": api.ErrName, "size(n.n, 1)": api.ErrName,
		"size(x[1,1], 1)": api.ErrDim, "size(a[1], 1)": api.ErrDim, "size(s.t.u, 1)": api.ErrDim, "size(y[1], 1)": api.ErrDim,
		"size(x[4], 1)": api.ErrArg, "size(x[0], 1)": api.ErrArg, "size(x[m], 1)": api.ErrArg, "size(b[1], 1)": api.ErrArg,
		"size(x[x[1]], 1)": api.ErrType, "size(x[1/0], 1)": api.ErrZero, "size(x[1/2], 1)": api.ErrArg, "size(x[big + 1], 1)": api.ErrSize,
		// a dimension that is not there
		"size(x, 2)": api.ErrArg, "size(x, 0)": api.ErrArg, "size(x, m)": api.ErrArg, "size(a, 1)": api.ErrArg,
		"size(n, 1)": api.ErrArg, "size(x[1], 1)": api.ErrArg, "size(y[1,1], 1)": api.ErrArg, "size(y, 3)": api.ErrArg,
		"size(x, time)": api.ErrType, "size(x, 1.5)": api.ErrType, "size(x, 1/0)": api.ErrZero, "size(x, big + 1)": api.ErrSize,
		// divisions
		"1 / 0": api.ErrZero, "0 / 0": api.ErrZero, "n / k": api.ErrZero, "1 / (n - 2)": api.ErrZero,
		"1 / 2": api.ErrArg, "-3 / 2": api.ErrArg, "7 / m": api.ErrArg, "2 / big": api.ErrArg, "1 / 2 * 2": api.ErrArg,
		// what is too large, also of a part
		"1000001": api.ErrSize, "999999999999999": api.ErrSize, "-1000001": api.ErrSize, "big + 1": api.ErrSize, "low - 1": api.ErrSize,
		"big * big": api.ErrSize, "low * big": api.ErrSize, "big + 1 - 1": api.ErrSize, "1000001 / 1000001": api.ErrSize,
		"-low + 1": api.ErrSize, "if big + 1 > 1 then 1 else 1": api.ErrSize, "if true then big + 1 else 1": api.ErrSize,
		// the first one: kids from the left to the right, a kid ahead of what it is in
		"1 / 0 + 1 / 2": api.ErrZero, "1 / 2 + 1 / 0": api.ErrArg, "(big + 1) / 0": api.ErrSize, "(1 / 2) / 0": api.ErrArg,
		"time / (1 / 0)": api.ErrType, "(1 / 0) / time": api.ErrZero, "(big + 1) * time": api.ErrSize, "time * (big + 1)": api.ErrType,
		"size(x[4], time)": api.ErrArg, "size(unknown, 1/0)": api.ErrName, "size(x, 1/0 + time)": api.ErrZero,
		"size(x[1/0], unknown)": api.ErrZero, "size(y[3,1/0], 1)": api.ErrArg, "size(y[1,1/0], 9)": api.ErrZero,
		// a part ahead of its kids, if it can be none of a whole expression
		"-{1 / 0}": api.ErrType, "1 + sum(x[9])": api.ErrType, "not (1 / 0 < 1)": api.ErrType, "1 / 0 < 1": api.ErrType,
		"n[1 / 0]": api.ErrType, "if sample(1, 1 / 0) then 1 else 2": api.ErrType, "if 1 / 0 then 1 else 2": api.ErrType,
		// both kids of and and or are asked for
		"if false and 1 / 0 == 1 then 1 else 2": api.ErrZero, "if true or 1 / 0 == 1 then 1 else 2": api.ErrZero,
		"if 1 / 0 == 1 and 1 / 2 == 1 then 1 else 2": api.ErrZero, "if 1 / 2 == 1 or time > 1 then 1 else 2": api.ErrArg,
		"if 1 / 0 > 1 then time else time": api.ErrZero, "if 1 > 1 then 1 / 0 else 1 / 2": api.ErrArg,
	} {
		if v, err := shape.Value(usual(), expr(t, text)); v != 0 || err != want {
			t.Errorf("Value(%s) = %d, %d, want %d", text, v, err, want)
		}
	}
	for what, x := range badTrees() {
		if v, err := shape.Value(usual(), x); v != 0 || err != api.ErrForm {
			t.Errorf("%s: Value = %d, %d", what, v, err)
		}
	}
}

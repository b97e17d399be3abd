package arrays_test

import (
	"slices"
	"strings"
	"testing"

	"linkwork/api"
	"linkwork/arrays"
	"linkwork/syntax"
)

// Package shape, whose functions are these for scopes, tests what they do. Here the names are no scope: paths of words
// from `a` to `e`, of any length, whose words have as many dimensions as they have letters but one, each with the place
// of the letter in the alphabet; and whole numbers, which are words of the letters `m` and `n`.
type endless struct{}

func (endless) Path(name string) ([][]int, bool) {
	var dims [][]int
	for _, word := range strings.Split(name, ".") {
		if strings.Trim(word, "abcde") != "" {
			return nil, false
		}
		dims = append(dims, slices.Repeat([]int{int(word[0]-'a') + 1}, len(word)-1))
	}
	return dims, true
}

func (endless) Whole(word string) (int, bool) {
	return len(word), strings.Trim(word, "mn") == ""
}

func expr(t *testing.T, text string) api.Tree {
	t.Helper()
	x, err := syntax.Expr(text)
	if err != api.OK {
		t.Fatalf("Expr(%q): %d", text, err)
	}
	return x
}

func TestShape(t *testing.T) {
	for text, want := range map[string][]int{"a": {}, "bb": {2}, "ccc": {3, 3}, "a.bb.a.a.a.a.a.a.a.a.a.cc": {2, 3}, "dd[1].dd[2].dd[3].dd[4].dd[1].dd[1].dd[1].dd[1].dd[1].dd[1].bb": {2}, "mmnmm": {}} {
		if got, err := arrays.Shape(endless{}, expr(t, text)); !slices.Equal(got, want) || err != api.OK {
			t.Errorf("Shape(%s) = %v, %d", text, got, err)
		}
	}
	for text, want := range map[string]api.Errno{"a.x": api.ErrName, "bb[3]": api.ErrArg, "bb[1, 1]": api.ErrDim, "a.a.a.a.a.a.a.a.a.bb[m, n]": api.ErrDim, "a.a.a.a.a.a.a.a.a.bb[mnm]": api.ErrArg} {
		if got, err := arrays.Shape(endless{}, expr(t, text)); got != nil || err != want {
			t.Errorf("Shape(%s) = %v, %d", text, got, err)
		}
	}
	if _, err := arrays.Shape(endless{}, api.Tree{Op: "string", Text: "m"}); err != api.ErrForm {
		t.Errorf("Shape of a string: %d", err)
	}
}

func TestValue(t *testing.T) {
	if got, err := arrays.Value(endless{}, expr(t, "nn * size(a.b.c.d.e.a.b.c.d.eee, 2) + mnm")); got != 13 || err != api.OK {
		t.Errorf("Value = %d, %d", got, err)
	}
	if got, err := arrays.Value(endless{}, api.Tree{}); got != 0 || err != api.ErrForm {
		t.Errorf("Value of nothing = %d, %d", got, err)
	}
}

func TestElement(t *testing.T) {
	x, err := arrays.Element(endless{}, expr(t, "nn * a.b.c.d.e.a.b.c.d.ee - {1, 2, 3, 4, n}"), []int{5})
	if text, _ := syntax.Show(x); text != "2 * a . b . c . d . e . a . b . c . d . ee [ 5 ] - 1" || err != api.OK {
		t.Errorf("Element = %s, %d", text, err)
	}
	if _, err := arrays.Element(endless{}, expr(t, "bb"), []int{3}); err != api.ErrArg {
		t.Errorf("Element: %d", err)
	}
	if _, err := arrays.Element(endless{}, api.Tree{Op: "part"}, nil); err != api.ErrForm {
		t.Errorf("Element of a part: %d", err)
	}
}

func TestUnroll(t *testing.T) {
	list, err := syntax.Parse("model A equation for m in 1:nn loop a.a.a.a.a.a.a.a.a.bb[m] = m; end for; end A;")
	if err != api.OK {
		t.Fatal(err)
	}
	lines, err := arrays.Unroll(endless{}, "e1", list[0].Eqs[0])
	if len(lines) != 2 || err != api.OK || lines[1].Name != "e1[2].1" {
		t.Errorf("Unroll = %+v, %d", lines, err)
	}
	if _, err := arrays.Unroll(endless{}, "1", list[0].Eqs[0]); err != api.ErrForm {
		t.Errorf("Unroll without a name: %d", err)
	}
}

package instance_test

import (
	"fmt"
	"reflect"
	"slices"
	"strings"
	"testing"

	"linkwork/api"
	"linkwork/instance"
)

// usual is a list as Build returns it.
func usual(t *testing.T) []api.Inst {
	t.Helper()
	return listOf(t, "a A", "a.b[1] B", "a.b[1].n Integer param value=2", "a.b[1].x[1] Real continuous", "a.b[1].x[2] Real continuous start=1 fixed",
		"a.b[2] B", "a.b[2].n Integer param value=-3", "a.b[2].x[1] Real continuous unit=m", "a.b[2].x[2] Real continuous flow", "a.m[1,1] Integer param value=1000000",
		"a.m[1,2] Integer param value=-1000000", "c Pin", "k Real param value=1/2", "n Integer param value=7", "t Boolean param truth value=true", "u Real input", "d Boolean discrete truth start=false")
}

func TestScope(t *testing.T) {
	list := usual(t)
	for path, want := range map[string]string{
		"":       "a a.b[2] a.b[2].n a.b[2].x[2] a.m[1,2] c d k n t u n=7",
		"a":      "b[2] b[2].n b[2].x[2] m[1,2]",
		"a.b[1]": "n x[2] n=2",
		"a.b[2]": "n x[2] n=-3",
		"c":      "",
	} {
		s, err := instance.Scope(list, path)
		if got := scopeText(s); got != want || err != api.OK {
			t.Errorf("Scope(%q) = %q, %d, want %q", path, got, err, want)
		}
		if !isNew(s, list) {
			t.Errorf("Scope(%q) shares memory", path)
		}
	}
	for _, path := range []string{"b", "a.b", "a.b[3]", "k", "a.b[1].n", "a.", ".", "a.b[1].x", "a.b[01]", "A", "a.m[1,1]"} {
		if s, err := instance.Scope(list, path); err != api.ErrName || !reflect.DeepEqual(s, api.Scope{}) {
			t.Errorf("Scope(%q) = %q, %d", path, scopeText(s), err)
		}
	}
	if s, err := instance.Scope(nil, ""); err != api.OK || len(s.Paths)+len(s.Wholes) > 0 {
		t.Errorf("of nothing: %q, %d", scopeText(s), err)
	}
}

// The greatest indices count, over all instances with the same words.
func TestScopeOfParts(t *testing.T) {
	list := listOf(t, "a[1] A", "a[1].x[2,1] Real continuous", "a[3] A", "a[3].x[1,4] Real continuous", "a[3].y Real continuous", "a[3].n Integer param value=3", "a[4] A", "ab A", "ab.z Real continuous")
	for path, want := range map[string]string{
		"":     "a[4] a[3].n a[3].x[2,4] a[3].y ab ab.z",
		"a[1]": "n x[2,4] y",
		"a[3]": "n x[2,4] y n=3",
		"a[4]": "n x[2,4] y",
		"ab":   "z",
	} {
		s, err := instance.Scope(list, path)
		if got := scopeText(s); got != want || err != api.OK {
			t.Errorf("Scope(%q) = %q, %d, want %q", path, got, err, want)
		}
	}
}

// numbered returns a list of so many instances.
func numbered(t *testing.T, n int, text string) []api.Inst {
	t.Helper()
	var texts []string
	for i := range n {
		texts = append(texts, fmt.Sprintf("p%d ", i)+text)
	}
	return listOf(t, texts...)
}

func TestListLimits(t *testing.T) {
	for n, want := range map[int]api.Errno{400: api.OK, 401: api.ErrSize} {
		if s, err := instance.Scope(numbered(t, n, "Real continuous"), ""); err != want || err == api.OK && len(s.Paths) != n || err != api.OK && len(s.Paths) > 0 {
			t.Errorf("Scope of %d places: %d, %d", n, len(s.Paths), err)
		}
	}
	for n, want := range map[int]api.Errno{100: api.OK, 101: api.ErrSize} {
		if s, err := instance.Scope(numbered(t, n, "Integer param value=1"), ""); err != want || err == api.OK && len(s.Wholes) != n {
			t.Errorf("Scope of %d Integers: %d, %d", n, len(s.Wholes), err)
		}
	}
	for n, want := range map[int]api.Errno{1000: api.OK, 1001: api.ErrSize} {
		if env, err := instance.Env(numbered(t, n, "Real param value=1")); err != want || err == api.OK && len(env.Binds) != n || err != api.OK && !reflect.DeepEqual(env, api.Env{}) {
			t.Errorf("Env of %d Params: %d, %d", n, len(env.Binds), err)
		}
	}
	if _, err := instance.Env(numbered(t, 3000, "Real continuous")); err != api.OK {
		t.Errorf("Env of others: %d", err)
	}
	var texts []string
	path := "a"
	for range 8 {
		texts = append(texts, path+" A")
		path += ".a"
	}
	deep := listOf(t, append(texts, path+" Real continuous")...)
	if s, err := instance.Scope(deep, "a"); err != api.OK || len(s.Paths) != 8 {
		t.Errorf("a path of 8 words: %d, %d", len(s.Paths), err)
	}
	if _, err := instance.Scope(deep, ""); err != api.ErrSize {
		t.Errorf("a path of 9 words: %d", err)
	}
	many := listOf(t, "a A")
	for i := range 12 {
		for j := range 12 {
			for k := range 4 {
				many = append(many, listOf(t, fmt.Sprintf("a.p%d[%d,%d] Real param value=%d", k, i+1, j+1, k))...)
			}
		}
	}
	slices.SortFunc(many, func(a, b api.Inst) int { return strings.Compare(a.Path, b.Path) })
	if s, err := instance.Scope(many, ""); err != api.OK || scopeText(s) != "a a.p0[12,12] a.p1[12,12] a.p2[12,12] a.p3[12,12]" {
		t.Errorf("a list of more than 400 instances: %s, %d", scopeText(s), err)
	}
}

func TestFind(t *testing.T) {
	list := usual(t)
	for _, want := range list {
		if got, err := instance.Find(list, want.Path); got != want || err != api.OK {
			t.Errorf("Find(%q) = %+v, %d", want.Path, got, err)
		}
	}
	for _, path := range []string{"", "a.b", "b", "zz", "a.b[3]", "a.b[1].", "a.b[1].x", "A", "a.b[2].x[1,1]"} {
		if got, err := instance.Find(list, path); got != (api.Inst{}) || err != api.ErrName {
			t.Errorf("Find(%q) = %+v, %d", path, got, err)
		}
	}
	if _, err := instance.Find(nil, "a"); err != api.ErrName {
		t.Errorf("Find in nothing: %d", err)
	}
}

func TestEnv(t *testing.T) {
	list := usual(t)
	env, err := instance.Env(list)
	var binds []string
	for _, b := range env.Binds {
		binds = append(binds, b.Use.Name+"="+b.Value)
		if b.Use.Order != 0 || b.Use.Pre {
			t.Errorf("%+v", b.Use)
		}
	}
	want := "a.b[1].n=2 a.b[2].n=-3 a.m[1,1]=1000000 a.m[1,2]=-1000000 k=1/2 n=7 t=true"
	if got := strings.Join(binds, " "); got != want || err != api.OK || env.Time != "0" || env.Initial {
		t.Errorf("Env = %s, %+v, %d, want %s", got, env, err, want)
	}
	if env, err := instance.Env(nil); err != api.OK || env.Time != "0" || len(env.Binds) > 0 {
		t.Errorf("Env of nothing: %+v, %d", env, err)
	}
}

// wantWell checks whether a list is well made, of which all functions ask it first.
func wantWell(t *testing.T, what string, list []api.Inst, isWell bool) {
	t.Helper()
	want := api.OK
	if !isWell {
		want = api.ErrForm
	}
	before := clone(list)
	s, err := instance.Scope(list, "")
	if err != want || !isWell && !reflect.DeepEqual(s, api.Scope{}) {
		t.Errorf("Scope of %s: %d, want %d", what, err, want)
	}
	env, err := instance.Env(list)
	if err != want || !isWell && !reflect.DeepEqual(env, api.Env{}) {
		t.Errorf("Env of %s: %d, want %d", what, err, want)
	}
	if !isWell {
		if _, err := instance.Scope(list, "nothing"); err != want {
			t.Errorf("Scope of %s: %d, want %d", what, err, want)
		}
		if x, err := instance.Find(list, "nothing"); err != want || x != (api.Inst{}) {
			t.Errorf("Find of %s: %d, want %d", what, err, want)
		}
		if len(list) > 0 {
			if x, err := instance.Find(list, list[0].Path); err != want || x != (api.Inst{}) {
				t.Errorf("Find of %s: %d, want %d", what, err, want)
			}
		}
	}
	if !same(before, list) {
		t.Errorf("%s is changed", what)
	}
}

func TestWellMade(t *testing.T) {
	for _, text := range []string{
		"", "a A", "a A;a.x Real continuous", "x[1] Real continuous;x[12] Real continuous", "x[1,12] Real continuous", "x[5] Real continuous", "a[2] A;a[2].x Real input",
		"x Real continuous start=1/2 fixed unit=m flow", "x Real discrete start=1 fixed", "x Boolean discrete truth start=true fixed", "x Real param value=-1/3 unit=V(1/2)", "x Real input unit=1",
		"x Boolean param truth value=false", "n Integer param value=1000000", "n Integer param value=-1000000 unit=m", "a model1", "Real Real continuous", "a.b Real continuous;a A",
		"a A;a.b A;a.b.c A;a.bc A", "A_1 A", "a23456789012345678901 A",
	} {
		texts := strings.Split(text, ";")
		if text == "" {
			texts = nil
		}
		wantWell(t, text, listOf(t, texts...), text != "a23456789012345678901 A")
	}
	for _, text := range []string{
		"1 A", "a. A", ".a A", "a..b A;a A", "end A", "a[ A", "a[] A", "a] A", "a[1 A", "a[1]] A", "a[1]b A", "a[0] A", "a[13] A", "a[01] A", "a[+1] A", "a[1,] A", "a[,1] A", "a[1,2,3] A", "a[-1] A",
		"a[1/2] A", "a[1][2] A", "a[x] A", "[1] A", "a_é A", "a' A", "a[1.b] A", "a[1].[2] A;a[1] A",
		"a.x Real continuous", "a Real continuous;a.x Real continuous", "a A;a.b.x Real continuous", "a[1] A;a.x Real continuous", "a[1] A;a[2].x Real continuous",
		"x[1] Real continuous;x[1,1] Real continuous", "x Real continuous;x[1] Real continuous", "a[1] A;a[1].x Real continuous;a[2] A;a[2].x[1] Real continuous",
		"a A;a.b[1] B;a.b B", "a 1", "a end", "a A.B", "a A[1]", "a A value=1", "a A start=1", "a A fixed", "a A unit=m", "a A flow", "a A truth", "a A continuous", "a A param value=1",
		"x Real", "x Real truth", "x Real continuous truth", "x Real discrete truth", "x Real param truth value=true", "x Real param", "x Real param value=true", "x Real param value=2/4", "x Real param value=1 start=1",
		"x Real continuous value=1", "x Real continuous start=true", "x Real continuous fixed", "x Real input start=1", "x Real continuous unit=2", "x Real continuous unit=m1", "x Real param value=1 flow",
		"x Real discrete flow", "x Real input flow", "x Boolean discrete", "x Boolean param value=1", "x Boolean continuous truth", "x Boolean input truth", "x Boolean discrete truth start=1",
		"x Boolean discrete truth unit=m", "x Boolean param truth value=true flow", "x Boolean discrete truth flow", "n Integer discrete start=1", "n Integer continuous", "n Integer param value=1/2", "n Integer param value=1000001",
		"n Integer param value=-1000001", "n Integer param value=true", "n Integer param truth value=true", "n Integer param", "n Integer", "n Integer param value=1 flow", "n Integer param value=99999999999999999999",
	} {
		wantWell(t, text, listOf(t, strings.Split(text, ";")...), false)
	}
}

// Lists that no text says.
func TestMalformedLists(t *testing.T) {
	a := api.Inst{Path: "a", Class: "A", Kind: -1}
	b := api.Inst{Path: "b", Class: "A", Kind: -1}
	for what, list := range map[string][]api.Inst{
		"falling":      {b, a},
		"twice":        {a, a},
		"no path":      {{Class: "A", Kind: -1}},
		"no class":     {{Path: "a", Kind: -1}},
		"kind 0":       {{Path: "a", Class: "A"}},
		"kind -2":      {{Path: "a", Class: "A", Kind: -2}},
		"kind -1":      {{Path: "a", Class: "Real", Kind: -1}},
		"kind 4":       {{Path: "a", Class: "Real", Kind: 4}},
		"type 2":       {{Path: "a", Class: "Real", Type: 2}},
		"a space":      {{Path: "a b", Class: "A", Kind: -1}},
		"by words":     {{Path: "x[2]", Class: "Real"}, {Path: "x[10]", Class: "Real"}},
		"the last one": append(usual(t), api.Inst{Path: "zz", Class: "Real", Unit: "?"}),
	} {
		wantWell(t, what, list, false)
	}
	wantWell(t, "80 bytes", longer(80), true)
	wantWell(t, "81 bytes", longer(81), false)
	part := longer(81)
	part[3].Class, part[3].Kind = "A", -1
	wantWell(t, "81 bytes of a part", part, false)
}

// longer returns a list whose last Path has so many bytes, 64 at least.
func longer(bytes int) []api.Inst {
	const word = "abcdefghijklmnopqrst"
	var list []api.Inst
	path := word
	for range 2 {
		list = append(list, api.Inst{Path: path, Class: "A", Kind: -1})
		path += "." + word
	}
	list = append(list, api.Inst{Path: path, Class: "A", Kind: -1})
	return append(list, api.Inst{Path: path + "." + word[:bytes-len(path)-1], Class: "Real"})
}

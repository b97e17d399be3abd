package system_test

import (
	"reflect"
	"slices"
	"strconv"
	"strings"
	"testing"

	"linkwork/api"
	"linkwork/system"
)

func use(name string, order int, before bool) api.Use {
	return api.Use{Name: name, Order: order, Pre: before}
}

func TestUses(t *testing.T) {
	want := []api.Use{
		use("k", 0, false), use("lock", 0, false), use("n", 0, true), use("on", 0, true), use("u", 1, false),
		use("x", 0, false), use("x", 1, false), use("x", 2, false), use("x", 0, true), use("y", 0, false),
	}
	if got, e := system.Uses(plant()); !slices.Equal(got, want) || e != api.OK {
		t.Errorf("Uses = %v, %d; want %v", got, e, want)
	}
	if got, e := system.Uses(api.System{Vars: plant().Vars}); len(got) != 0 || e != api.OK {
		t.Errorf("Uses without expressions = %v, %d", got, e)
	}
	// Variables that are only assigned, or only there, have no use.
	s := read(t, "var a discrete number", "var b continuous number", "var c param number value=1", "when w true assign a 1 reinit b 2")
	if got, e := system.Uses(s); len(got) != 0 || e != api.OK {
		t.Errorf("Uses of acts with numbers = %v, %d", got, e)
	}
}

func TestOf(t *testing.T) {
	x := []api.Expr{der("x", 2), pre("x"), der("x", 6), ref("x"), pre("B"), ref("x.a"), pre("x"), der("x'", 1), ref("B")}
	want := []api.Use{use("B", 0, false), use("B", 0, true), use("x", 0, false), use("x", 2, false), use("x", 6, false), use("x", 0, true), use("x'", 1, false), use("x.a", 0, false)}
	all := add(sum(x[:4]...), choice(op(api.Not, op(api.Or, x[4], x[5])), neg(x[6]), mul(x[7], x[8])))
	for _, c := range []struct {
		e    api.Expr
		want []api.Use
		we   api.Errno
	}{
		{all, want, api.OK}, {num("1"), nil, api.OK}, {op(api.Sample, num("0"), num("1")), nil, api.OK}, {ref("x"), []api.Use{use("x", 0, false)}, api.OK},
		{op(api.And, ref("x"), num("1")), []api.Use{use("x", 0, false)}, api.OK}, // types are those of a system
		{add(wide(100), ref("z")), []api.Use{use("z", 0, false)}, api.OK},
		{deep(25), nil, api.ErrSize}, {wide(201), nil, api.ErrSize}, {endless(), nil, api.ErrSize}, {add(op("none"), endless()), nil, api.ErrSize},
		{api.Expr{}, nil, api.ErrForm}, {ref(""), nil, api.ErrForm}, {add(ref("x"), ref("1")), nil, api.ErrForm}, {der("x", 7), nil, api.ErrForm}, {der("x", -1), nil, api.ErrForm},
		{api.Expr{Op: api.Pre, Text: "x", Order: 1}, nil, api.ErrForm}, {op(api.Add, ref("x")), nil, api.ErrForm}, {op(api.Sample, ref("x"), num("1")), nil, api.ErrForm}, {op(api.Sample, num("0"), num("0")), nil, api.ErrForm},
		{num("1/1"), nil, api.ErrForm}, {ref(strings.Repeat("a", 81)), nil, api.ErrForm},
	} {
		got, e := system.Of(c.e)
		if !slices.Equal(got, c.want) || e != c.we {
			t.Errorf("Of %v = %v, %d; want %v, %d", c.e, got, e, c.want, c.we)
		}
		if _, e := system.Show(c.e); e != c.we {
			t.Errorf("Show of %v: %d, want %d", c.e, e, c.we)
		}
	}
}

func TestParams(t *testing.T) {
	want := api.Env{Time: "0", Binds: []api.Bind{bind("k", 0, false, "-3/2"), bind("lock", 0, false, "false")}}
	if got, e := system.Params(plant()); !reflect.DeepEqual(got, want) || e != api.OK {
		t.Errorf("Params = %v, %d", got, e)
	}
	if got, e := system.Params(api.System{}); got.Time != "0" || got.Initial || len(got.Binds) != 0 || e != api.OK {
		t.Errorf("Params of nothing = %v, %d", got, e)
	}
}

func TestBind(t *testing.T) {
	var env api.Env
	env.Time, env.Initial = "-7/2", true
	// In whatever order uses come, they are in order.
	uses := []api.Use{use("b", 0, true), use("b", 2, false), use("a", 0, false), use("b", 0, false), use("c", 0, true), use("b", 6, false), use("b", 1, false)}
	for i, u := range uses {
		next, e := system.Bind(env, u, strconv.Itoa(i))
		if e != api.OK || next.Time != "-7/2" || !next.Initial || len(next.Binds) != i+1 || len(env.Binds) != i {
			t.Fatalf("Bind of %v = %v, %d", u, next, e)
		}
		env = next
	}
	want := []api.Bind{bind("a", 0, false, "2"), bind("b", 0, false, "3"), bind("b", 1, false, "6"), bind("b", 2, false, "1"), bind("b", 6, false, "5"), bind("b", 0, true, "0"), bind("c", 0, true, "4")}
	if !slices.Equal(env.Binds, want) {
		t.Errorf("Bind of all: %v", env.Binds)
	}
	next, e := system.Bind(env, use("b", 1, false), "true")
	want[2].Value = "true"
	if !slices.Equal(next.Binds, want) || env.Binds[2].Value != "6" || e != api.OK {
		t.Errorf("Bind of what is there: %v, %d; before: %v", next, e, env)
	}
	for _, c := range []struct {
		u     api.Use
		value string
	}{
		{use("", 0, false), "1"}, {use("1", 0, false), "1"}, {use(strings.Repeat("a", 81), 0, false), "1"}, {use("a", -1, false), "1"}, {use("a", 7, false), "1"},
		{use("a", 1, true), "1"}, {use("a", 0, false), ""}, {use("a", 0, false), "2/2"}, {use("a", 0, false), "yes"}, {use("a", 0, false), nines + "9"},
	} {
		if got, e := system.Bind(env, c.u, c.value); e != api.ErrForm || got.Time != "" || len(got.Binds) != 0 {
			t.Errorf("Bind of %v, %.9q = %v, %d", c.u, c.value, got, e)
		}
	}
}

func TestBindMany(t *testing.T) {
	env := api.Env{Time: "0"}
	for _, name := range numbered("z", api.MaxBinds-1) {
		env.Binds = append(env.Binds, bind(name, 0, false, "1"))
	}
	env, e := system.Bind(env, use("a", 0, true), "2")
	if len(env.Binds) != api.MaxBinds || env.Binds[0].Value != "2" || e != api.OK {
		t.Fatalf("Bind of the last bind there may be: %d", e)
	}
	if got, e := system.Bind(env, use("zz", 0, false), "3"); len(got.Binds) != 0 || e != api.ErrSize {
		t.Errorf("Bind of one more: %d", e)
	}
	if _, e := system.Bind(env, use("zz", 7, false), "3"); e != api.ErrForm {
		t.Errorf("Bind of one more that is malformed: %d", e)
	}
	if got, e := system.Bind(env, use("a", 0, true), "3"); len(got.Binds) != api.MaxBinds || got.Binds[0].Value != "3" || e != api.OK {
		t.Errorf("Bind of what is there among many: %d", e)
	}
}

func TestRename(t *testing.T) {
	s, e := system.Rename(plant(), []string{"k", "on", "u", "x"}, []string{"z.k", "a", "x", "u"})
	if e != api.OK {
		t.Fatalf("Rename: %d", e)
	}
	want := strings.Join([]string{
		"var a discrete truth start=true", "var lock param truth value=false", "var n discrete number start=0 fixed unit=1", "var u continuous number start=1 fixed unit=m",
		"var x input number unit=V(1/2)", "var y continuous number", "var z.k param number value=-3/2 unit=N.m-1",
		"eq e1 @u:'' neg(mul(@z.k;@u))", "eq e2 @y if(or(pre@a;@lock);div(@x:';2);time)", "init i @u:' 0",
		"when w1 less(@u;0) assign a not(pre@a) reinit u neg(pre@u)", "when w2 sample(0;1/2) assign n add(pre@n;1) reinit u 1", "",
	}, "\n")
	if got := text(t, s); got != want {
		t.Errorf("Rename: %s", got)
	}
	for _, c := range []struct {
		from, to []string
		want     api.Errno
	}{
		{nil, nil, api.OK}, {[]string{"x"}, []string{"x"}, api.OK}, {[]string{"x", "y"}, []string{"y", "x"}, api.OK}, {[]string{"x"}, []string{"e1"}, api.OK}, {[]string{"x"}, []string{strings.Repeat("z", 80)}, api.OK},
		{[]string{"x"}, []string{"1"}, api.ErrForm}, {[]string{""}, []string{"z"}, api.ErrForm}, {[]string{"x"}, []string{strings.Repeat("z", 81)}, api.ErrForm}, {[]string{"x:"}, nil, api.ErrForm}, {nil, []string{"a", ""}, api.ErrForm},
		{[]string{"y", "x", ""}, []string{"a"}, api.ErrForm}, {[]string{"x"}, nil, api.ErrArg}, {nil, []string{"x"}, api.ErrArg}, {[]string{"x", "y"}, []string{"z"}, api.ErrArg}, {[]string{"y", "x"}, []string{"a", "b"}, api.ErrArg},
		{[]string{"x", "x"}, []string{"a", "a"}, api.ErrArg}, {[]string{"zz"}, nil, api.ErrArg}, {[]string{"zz", "x"}, []string{"a", "b"}, api.ErrArg},
		{[]string{"z"}, []string{"zz"}, api.ErrName}, {[]string{"x", "z"}, []string{"a", "b"}, api.ErrName}, {[]string{"e1"}, []string{"e3"}, api.ErrName}, {[]string{"x"}, []string{"y"}, api.ErrName}, {[]string{"x", "y"}, []string{"z", "z"}, api.ErrName},
		{[]string{"x", "y"}, []string{"y", "k"}, api.ErrName},
	} {
		got, e := system.Rename(plant(), c.from, c.to)
		if e != c.want || e != api.OK && len(got.Vars)+len(got.Eqs) > 0 {
			t.Errorf("Rename %v to %v: %d, want %d", c.from, c.to, e, c.want)
		}
	}
}

// other is a system that has no name of the plant's variables, equations, initial ones and whens.
func other(t *testing.T) api.System {
	return read(t, "var a continuous number", "var m discrete number start=2", "var z param number value=5",
		"eq a @a @z", "eq i @a @a", "init e1 @a 0", "when a less(@a;pre@m) assign m 7", "when x true reinit a 1")
}

func TestMerge(t *testing.T) {
	got, e := system.Merge(plant(), other(t))
	if e != api.OK {
		t.Fatalf("Merge: %d", e)
	}
	var names []string
	for _, line := range strings.Split(strings.TrimSuffix(text(t, got), "\n"), "\n") {
		names = append(names, strings.Join(strings.Split(line, " ")[:2], " "))
	}
	want := []string{"var a", "var k", "var lock", "var m", "var n", "var on", "var u", "var x", "var y", "var z", "eq a", "eq e1", "eq e2", "eq i", "init e1", "init i", "when a", "when w1", "when w2", "when x"}
	if !slices.Equal(names, want) {
		t.Errorf("Merge: %v", names)
	}
	for _, c := range []change[api.System]{
		{"a variable", func(s *api.System) { s.Vars = append(s.Vars[:2], api.Var{Name: "y"}, s.Vars[2]) }},
		{"an equation", func(s *api.System) { s.Eqs[1].Name = "e2" }},
		{"an initial equation", func(s *api.System) { s.Inits[0].Name = "i" }},
		{"a when", func(s *api.System) { s.Whens[1].Name = "w1" }},
	} {
		s := other(t)
		c.do(&s)
		if e := system.Check(s); e != api.OK {
			t.Fatalf("%s: Check = %d", c.name, e)
		}
		if got, e := system.Merge(plant(), s); e != api.ErrName || len(got.Vars) > 0 {
			t.Errorf("Merge with %s in both: %d", c.name, e)
		}
		if got, e := system.Merge(s, plant()); e != api.ErrName || len(got.Vars) > 0 {
			t.Errorf("Merge with %s in both, turned: %d", c.name, e)
		}
	}
}

func TestMergeLimits(t *testing.T) {
	parts := func(prefix string, vars, eqs, inits, whens int) api.System {
		var s api.System
		for _, name := range numbered(prefix, vars) {
			s.Vars = append(s.Vars, api.Var{Name: name})
		}
		for _, name := range numbered(prefix, eqs) {
			s.Eqs = append(s.Eqs, api.Eq{Name: name, Left: wide(20), Right: wide(8)})
		}
		for _, name := range numbered(prefix, inits) {
			s.Inits = append(s.Inits, api.Eq{Name: name, Left: num("1"), Right: num("1")})
		}
		for _, name := range numbered(prefix, whens) {
			s.Whens = append(s.Whens, api.When{Name: name, Cond: truth(true), Acts: []api.Act{{Kind: api.Reinit, Var: prefix + "1000", Value: num("1")}}})
		}
		return s
	}
	for _, c := range []struct {
		a, b api.System
		want api.Errno
	}{
		{parts("a", 60, 60, 60, 60), parts("b", 60, 60, 60, 60), api.OK},
		{parts("a", 61, 0, 0, 0), parts("b", 60, 0, 0, 0), api.ErrSize}, {parts("a", 0, 61, 0, 0), parts("b", 0, 60, 0, 0), api.ErrSize},
		{parts("a", 0, 0, 61, 0), parts("b", 0, 0, 60, 0), api.ErrSize}, {parts("a", 1, 0, 0, 61), parts("b", 1, 0, 0, 60), api.ErrSize},
		{full(), parts("b", 1, 0, 0, 0), api.OK}, {full(), parts("b", 0, 0, 1, 0), api.ErrSize}, {full(), full(), api.ErrName},
		{parts("a", 61, 0, 0, 0), parts("a", 60, 0, 0, 0), api.ErrName},
	} {
		if got, e := system.Merge(c.a, c.b); e != c.want || e != api.OK && len(got.Vars)+len(got.Eqs) > 0 {
			t.Errorf("Merge of %d, %d, %d, %d parts and others: %d, want %d", len(c.a.Vars), len(c.a.Eqs), len(c.a.Inits), len(c.a.Whens), e, c.want)
		}
	}
	large, malformed := plant(), plant()
	large.Eqs[0].Left = deep(25)
	malformed.Eqs[0].Left = ref("z")
	if _, e := system.Merge(malformed, large); e != api.ErrForm {
		t.Errorf("Merge of what is malformed and what is too large: %d", e)
	}
	if _, e := system.Merge(large, malformed); e != api.ErrSize {
		t.Errorf("Merge of what is too large and what is malformed: %d", e)
	}
}

func TestSorted(t *testing.T) {
	s := plant()
	slices.Reverse(s.Vars)
	slices.Reverse(s.Eqs)
	slices.Reverse(s.Whens)
	if e := system.Check(s); e != api.ErrForm {
		t.Fatalf("Check of what does not rise = %d", e)
	}
	got, e := system.Sorted(s)
	if e != api.OK || text(t, got) != text(t, plant()) {
		t.Errorf("Sorted: %d", e)
	}
	for _, c := range []change[api.System]{
		{"a variable twice", func(s *api.System) { s.Vars = append(s.Vars, s.Vars[3]) }},
		{"an equation twice", func(s *api.System) { s.Eqs = append(s.Eqs, s.Eqs[0]) }},
		{"an initial equation twice", func(s *api.System) { s.Inits = append(s.Inits, s.Inits[0]) }},
		{"a when twice", func(s *api.System) { s.Whens = append(s.Whens, s.Whens[0]) }},
		{"an unknown variable", func(s *api.System) { s.Vars = s.Vars[1:] }},
		{"a malformed name", func(s *api.System) { s.Eqs[0].Name = "0" }},
	} {
		s := plant()
		c.do(&s)
		if got, e := system.Sorted(s); e != api.ErrForm || len(got.Vars) > 0 {
			t.Errorf("Sorted of a system with %s: %d", c.name, e)
		}
	}
	s.Eqs[0].Right, s.Vars[0].Name = wide(201), ""
	if got, e := system.Sorted(s); e != api.ErrSize || len(got.Vars) > 0 {
		t.Errorf("Sorted of what is too large: %d", e)
	}
}

// R5: results share no memory with arguments, nor parts of a result with one another.
func TestNewMemory(t *testing.T) {
	kids := []api.Expr{ref("x"), num("1")}
	shared := api.Expr{Op: api.Add, Kids: kids}
	s := plant()
	s.Eqs[0].Left, s.Eqs[0].Right = shared, mul(shared, shared)
	s.Inits[0].Left, s.Inits[0].Right = shared, shared
	s.Whens[0].Cond, s.Whens[0].Acts[1].Value = op(api.Less, shared, shared), shared
	before := text(t, s)
	for name, result := range map[string]func() api.System{
		"Sorted": func() api.System { r, _ := system.Sorted(s); return r },
		"Rename": func() api.System { r, _ := system.Rename(s, nil, nil); return r },
		"Merge":  func() api.System { r, _ := system.Merge(s, api.System{}); return r },
		"turned": func() api.System { r, _ := system.Merge(api.System{}, s); return r },
		"Read":   func() api.System { r, _ := system.Read(before); return r },
	} {
		r := result()
		if text(t, r) != before {
			t.Fatalf("%s changes the system", name)
		}
		r.Eqs[0].Right.Kids[0].Kids[0] = ref("y")
		if r.Eqs[0].Right.Kids[1].Kids[0].Text != "x" || r.Eqs[0].Left.Kids[0].Text != "x" || r.Inits[0].Left.Kids[0].Text != "x" {
			t.Errorf("%s: expressions of the result share memory", name)
		}
		r.Vars[0].Name, r.Eqs[1].Name, r.Inits[0].Name, r.Whens[0].Name, r.Whens[0].Acts[0].Var = "A", "A", "A", "A", "A"
		r.Whens[0].Cond.Kids[0].Kids[0], r.Whens[0].Acts[1].Value.Kids[1], r.Inits[0].Left.Kids[0] = ref("A"), ref("A"), ref("A")
		r.Vars, r.Eqs, r.Inits, r.Whens = append(r.Vars[:2], api.Var{}), append(r.Eqs[:1], api.Eq{}), append(r.Inits[:0], api.Eq{}), append(r.Whens[:1], api.When{})
		if text(t, s) != before {
			t.Errorf("%s: the result shares memory with the argument", name)
		}
	}
}

func TestArgumentsStay(t *testing.T) {
	s, env := plant(), instant()
	slices.Reverse(s.Vars)
	slices.Reverse(s.Whens)
	from, to := []string{"k", "x"}, []string{"x", "k"}
	system.Sorted(s)
	if s.Vars[0].Name != "y" || s.Whens[0].Name != "w2" {
		t.Error("Sorted changes its argument")
	}
	system.Rename(plant(), from, to)
	if !slices.Equal(from, []string{"k", "x"}) || !slices.Equal(to, []string{"x", "k"}) {
		t.Error("Rename changes its arguments")
	}
	env.Binds = slices.Grow(env.Binds, 5)
	next, _ := system.Bind(env, use("b", 0, false), "1")
	other, _ := system.Bind(env, use("c", 0, false), "2")
	if !reflect.DeepEqual(env, instant()) || next.Binds[1].Use.Name != "b" || other.Binds[1].Use.Name != "c" {
		t.Error("Bind changes its argument")
	}
	next, _ = system.Bind(env, use("k", 0, false), "1")
	next.Binds[0].Value = "8"
	if !reflect.DeepEqual(env, instant()) {
		t.Error("Bind shares memory with its argument")
	}
}

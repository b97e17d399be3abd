package connect_test

import (
	"slices"
	"strings"
	"testing"

	"linkwork/api"
	"linkwork/connect"
)

func TestSets(t *testing.T) {
	for _, x := range []struct{ ends, links, want string }{
		{"", "", ""},
		{"a.p", "", "a.p"},
		{"a.p b.p", "a.p=b.p", "a.p b.p"},
		{"b.p a.p", "b.p=a.p", "a.p b.p"},
		{"b.p a.p", "", "a.p | b.p"},
		{"a", "a=a", "a"},
		{"a b", "b=b a=a", "a | b"},
		{"p ^p", "", "p | ^p"},
		{"^p p", "^p=p", "p ^p"},
		{"^a b ^b a", "", "a | ^a | b | ^b"},
		{"^a b ^b a", "a=^b b=^a", "a ^b | ^a b"},
		{"d c b a", "d=c b=a", "a b | c d"},
		{"d c b a", "c=a b=d", "a c | b d"},
		{"d c b a", "d=c b=a c=b", "a b c d"},
		{"d c b a", "d=a a=d", "a d | b | c"},
		{"z.p a.p m.p ^p", "z.p=m.p m.p=^p", "a.p | m.p ^p z.p"},
		{"p[2] p[10] p[1] p.q P p1", "", "P | p.q | p1 | p[10] | p[1] | p[2]"},
		{"a a.b a_ aB a1 a' a[", "a.b=a' a'=a[", "a | a' a.b a[ | a1 | aB | a_"},
		{"a b c d e f g h", "h=g g=f f=e e=d d=c c=b b=a", "a b c d e f g h"},
		{"a b c d e f g h", "a=h b=g c=f d=e h=b", "a b g h | c f | d e"},
	} {
		got, err := connect.Sets(ends(x.ends), links(x.links))
		if text := setsText(got); text != x.want || err != api.OK {
			t.Errorf("Sets(%s; %s) = %s, %d, want %s", x.ends, x.links, text, err, x.want)
		}
	}
}

// wrong is what Sets, and all that return its errors, are given, and the error.
type wrong struct {
	ends  []api.End
	links [][2]api.End
	err   api.Errno
}

func wrongs() map[string]wrong {
	many := numbered(401)
	full := many[:400]
	loops := func(count int, x api.End) [][2]api.End { return slices.Repeat([][2]api.End{{x, x}}, count) }
	p0 := full[0]
	return map[string]wrong{
		"400 ends":                       {full, nil, api.OK},
		"400 connections":                {numbered(1), loops(400, p0), api.OK},
		"400 of both":                    {full, loops(400, p0), api.OK},
		"a long Path":                    {ends(strings.Repeat("x", 80)), nil, api.OK},
		"no Path":                        {[]api.End{{}}, nil, api.ErrForm},
		"no Path, outside":               {[]api.End{{Outside: true}}, nil, api.ErrForm},
		"a Path that is none":            {ends("a b 1"), nil, api.ErrForm},
		"a Path with a blank":            {[]api.End{{Path: "a b"}}, nil, api.ErrForm},
		"too long a Path":                {ends(strings.Repeat("x", 81)), nil, api.ErrForm},
		"a connection of no name":        {ends("a b"), links("a=b a="), api.ErrForm},
		"a connection from no name":      {ends("a b"), links("'=b"), api.ErrForm},
		"connections of no ends":         {nil, links("a=b"), api.ErrName},
		"a connection of another end":    {ends("a b"), links("a=b a=c"), api.ErrName},
		"a connection from another end":  {ends("a b"), links("c=a"), api.ErrName},
		"a connection of another side":   {ends("a b"), links("a=^b"), api.ErrName},
		"another end with itself":        {ends("a ^b"), links("b=b"), api.ErrName},
		"an end twice":                   {ends("a b a"), nil, api.ErrName},
		"an outside end twice":           {ends("^a a ^a"), nil, api.ErrName},
		"401 ends":                       {many, nil, api.ErrSize},
		"401 connections":                {full, loops(401, p0), api.ErrSize},
		"401 connections of one end":     {numbered(1), loops(401, p0), api.ErrSize},
		"no name, and twice":             {ends("a a 1"), nil, api.ErrForm},
		"twice, and no name connected":   {ends("a a"), links("a=1"), api.ErrForm},
		"another end, and no name":       {ends("a b"), links("a=c 1=a"), api.ErrForm},
		"401 ends, no name":              {append(numbered(400), api.End{}), nil, api.ErrForm},
		"401 ends, one twice":            {append(numbered(400), p0), nil, api.ErrName},
		"401 ends, another connected":    {many, links("p0=q"), api.ErrName},
		"401 connections, one of others": {full, append(loops(400, p0), links("p0=q")...), api.ErrName},
		"401 connections, one of none":   {full, append(loops(400, p0), links("p0=1")...), api.ErrForm},
	}
}

func TestErrors(t *testing.T) {
	for what, x := range wrongs() {
		got, err := connect.Sets(x.ends, x.links)
		if err != x.err || err != api.OK && len(got) > 0 {
			t.Errorf("%s: Sets = %v, %d, want %d", what, got, err, x.err)
		}
		list, err := connect.Generate(x.ends, x.links, fieldsAt(x.ends, ""))
		if err != x.err || len(list) > 0 {
			t.Errorf("%s: Generate = %v, %d, want %d", what, list, err, x.err)
		}
		// what is wrong with the ends is ahead of what is wrong with fields
		if _, err := connect.Generate(x.ends, x.links, nil); x.err != api.OK && err != x.err {
			t.Errorf("%s: Generate without fields: %d, want %d", what, err, x.err)
		}
		some := api.End{Path: "a"}
		if len(x.ends) > 0 {
			some = x.ends[0]
		}
		if ok, err := connect.Joined(x.ends, x.links, some, some); err != x.err || ok != (err == api.OK) {
			t.Errorf("%s: Joined = %v, %d, want %d", what, ok, err, x.err)
		}
		want := x.err
		if want == api.OK {
			want = api.ErrName
		}
		if ok, err := connect.Joined(x.ends, x.links, some, endOf("other")); ok || err != want {
			t.Errorf("%s: Joined with another end = %v, %d, want %d", what, ok, err, want)
		}
		for _, pair := range [][2]api.End{{some, {}}, {{Outside: true}, some}, {{Path: "1"}, {Path: "a b"}}} {
			if ok, err := connect.Joined(x.ends, x.links, pair[0], pair[1]); ok || err != api.ErrForm {
				t.Errorf("%s: Joined(%v) = %v, %d", what, pair, ok, err)
			}
		}
	}
}

func TestJoined(t *testing.T) {
	list, connections := ends("a b c d ^a ^e"), links("c=a d=^a")
	for _, x := range []struct {
		a, b   string
		joined bool
		err    api.Errno
	}{
		{"a", "c", true, api.OK},
		{"c", "a", true, api.OK},
		{"a", "a", true, api.OK},
		{"^e", "^e", true, api.OK},
		{"^a", "d", true, api.OK},
		{"a", "^a", false, api.OK},
		{"a", "b", false, api.OK},
		{"c", "d", false, api.OK},
		{"b", "^e", false, api.OK},
		{"a", "e", false, api.ErrName},
		{"^b", "a", false, api.ErrName},
		{"f", "f", false, api.ErrName},
		{"f", "", false, api.ErrForm},
		{"^", "f", false, api.ErrForm},
		{"a", "a ", false, api.ErrForm},
	} {
		if ok, err := connect.Joined(list, connections, endOf(x.a), endOf(x.b)); ok != x.joined || err != x.err {
			t.Errorf("Joined(%s, %s) = %v, %d", x.a, x.b, ok, err)
		}
	}
	if ok, err := connect.Joined(nil, nil, endOf("a"), endOf("a")); ok || err != api.ErrName {
		t.Errorf("Joined without ends = %v, %d", ok, err)
	}
}

// Chains of as many ends as there may be, in orders in which each connection joins what is joined to what is not.
func TestChains(t *testing.T) {
	list := numbered(400)
	slices.SortFunc(list, func(a, b api.End) int { return strings.Compare(a.Path, b.Path) })
	var up, star [][2]api.End
	for i := range 399 {
		up = append(up, [2]api.End{list[i], list[i+1]})
		star = append(star, [2]api.End{list[399], list[i]})
	}
	down := slices.Clone(up)
	slices.Reverse(down)
	s := source(400)
	for _, connections := range [][][2]api.End{up, down, star, shuffled(&s, up), shuffled(&s, star)} {
		got := sets(t, shuffled(&s, list), connections)
		if len(got) != 1 || !slices.Equal(got[0], list) {
			t.Errorf("%d sets", len(got))
		}
		got = sets(t, list, slices.Delete(slices.Clone(connections), 200, 201))
		if len(got) != 2 || len(got[0])+len(got[1]) != 400 {
			t.Errorf("%d sets without one", len(got))
		}
		if !joined(t, list, connections, list[0], list[399]) {
			t.Error("the ends of a chain are not joined")
		}
	}
}

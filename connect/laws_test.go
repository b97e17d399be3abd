package connect_test

import (
	"maps"
	"slices"
	"strconv"
	"strings"
	"testing"

	"linkwork/api"
	"linkwork/connect"
	"linkwork/system"
)

// groups calls a function for random ends, connections of them, and fields that all of them may have.
func groups(seed source, rounds int, look func(s *source, list []api.End, connections [][2]api.End, common []api.Field)) {
	for range rounds {
		list := seed.someEnds(1 + seed.below(10))
		common := fields("v i~ w_2 j~ o k~")[seed.below(3):]
		look(&seed, list, seed.someLinks(list, seed.below(10)), common[:seed.below(len(common)+1)])
	}
}

// everywhere returns the fields that all ends have.
func everywhere(list []api.End, common []api.Field) map[string][]api.Field {
	all := make(map[string][]api.Field)
	for _, x := range list {
		all[x.Path] = slices.Clone(common)
	}
	return all
}

// P10.1
func TestLawSets(t *testing.T) {
	t.Parallel()
	apart, together := 0, 0
	groups(101, 2000, func(s *source, list []api.End, connections [][2]api.End, _ []api.Field) {
		places := make(map[api.End]int)
		for i, set := range sets(t, list, connections) {
			if len(set) == 0 {
				t.Fatalf("an empty set of %v, %v", list, connections)
			}
			for _, x := range set {
				if _, ok := places[x]; ok || !slices.Contains(list, x) {
					t.Fatalf("%v is in a set of %v once more", x, list)
				}
				places[x] = i
			}
		}
		if len(places) != len(list) {
			t.Fatalf("%d of %v are in sets", len(places), list)
		}
		for _, link := range connections {
			if !joined(t, list, connections, link[0], link[1]) {
				t.Fatalf("%v are not joined by %v", link, connections)
			}
		}
		is := func(a, b api.End) bool { return joined(t, list, connections, a, b) }
		for _, a := range list {
			for _, b := range list {
				if is(a, b) != (places[a] == places[b]) || is(a, b) != is(b, a) || a == b && !is(a, b) {
					t.Fatalf("%v and %v of %v, %v: %v, but %d, %d", a, b, list, connections, is(a, b), places[a], places[b])
				}
				c := pick(s, list...)
				if is(a, b) && is(b, c) && !is(a, c) {
					t.Fatalf("%v, %v and %v of %v, %v", a, b, c, list, connections)
				}
				if is(a, b) {
					together++
				} else {
					apart++
				}
			}
		}
	})
	if apart < 10000 || together < 10000 {
		t.Errorf("%d apart, %d together", apart, together)
	}
}

// another returns the same connections in another way: in another order, turned, twice, and with some that join what
// is joined already.
func another(t *testing.T, s *source, list []api.End, connections [][2]api.End) [][2]api.End {
	var other [][2]api.End
	for _, link := range connections {
		for range 1 + s.below(2) {
			if s.below(2) == 0 {
				link[0], link[1] = link[1], link[0]
			}
			other = append(other, link)
		}
	}
	for _, set := range sets(t, list, connections) {
		for range s.below(3) {
			other = append(other, [2]api.End{pick(s, set...), pick(s, set...)})
		}
	}
	return shuffled(s, other)
}

// P10.2
func TestLawOrder(t *testing.T) {
	t.Parallel()
	groups(102, 3000, func(s *source, list []api.End, connections [][2]api.End, common []api.Field) {
		otherList, other := shuffled(s, list), another(t, s, list, connections)
		want, got := setsText(sets(t, list, connections)), setsText(sets(t, otherList, other))
		if got != want {
			t.Fatalf("Sets(%v, %v) = %s, in another way %s", list, connections, want, got)
		}
		a, b := pick(s, list...), pick(s, list...)
		if joined(t, list, connections, a, b) != joined(t, otherList, other, a, b) {
			t.Fatalf("Joined(%v, %v, %v, %v)", list, connections, a, b)
		}
		all, otherFields := everywhere(list, common), everywhere(list, shuffled(s, common))
		eqs, err := connect.Generate(list, connections, all)
		otherEqs, otherErr := connect.Generate(otherList, other, otherFields)
		if err != otherErr || !slices.Equal(eqTexts(eqs), eqTexts(otherEqs)) {
			t.Fatalf("Generate(%v, %v, %v) = %q, %d, in another way %q, %d", list, connections, common, eqTexts(eqs), err, eqTexts(otherEqs), otherErr)
		}
	})
}

// P10.3
func TestLawFewest(t *testing.T) {
	t.Parallel()
	groups(103, 2000, func(s *source, list []api.End, _ [][2]api.End, _ []api.Field) {
		// a tree that has all ends but some, which are alone
		alone := s.below(len(list))
		var tree [][2]api.End
		for i := alone + 1; i < len(list); i++ {
			link := [2]api.End{list[i], list[alone+s.below(i-alone)]}
			if s.below(2) == 0 {
				link[0], link[1] = link[1], link[0]
			}
			tree = append(tree, link)
		}
		tree = shuffled(s, tree)
		if got := sets(t, list, tree); len(got) != alone+1 {
			t.Fatalf("Sets(%v, %v): %d sets", list, tree, len(got))
		}
		for i := range tree {
			fewer := slices.Delete(slices.Clone(tree), i, i+1)
			if got := sets(t, list, fewer); len(got) != alone+2 {
				t.Fatalf("Sets(%v, %v): %d sets", list, fewer, len(got))
			}
		}
	})
}

// P10.4
func TestLawCounted(t *testing.T) {
	t.Parallel()
	none := 0
	groups(104, 3000, func(s *source, list []api.End, connections [][2]api.End, _ []api.Field) {
		pairs := s.below(4)
		var common []api.Field
		for i := range pairs {
			common = append(common, fields("u"+strconv.Itoa(i)+" f"+strconv.Itoa(i)+"~")...)
		}
		common = shuffled(s, common)
		total := 0
		for _, set := range sets(t, list, connections) {
			want := len(set) * pairs
			if len(set) == 1 && set[0].Outside {
				want = 0
				none++
			}
			got, err := connect.Equations(set, common)
			if len(got) != want || err != api.OK {
				t.Fatalf("Equations(%v, %v): %d, %d, want %d", set, common, len(got), err, want)
			}
			total += want
		}
		got, err := connect.Generate(list, connections, everywhere(list, common))
		if len(got) != total || err != api.OK {
			t.Fatalf("Generate(%v, %v, %v): %d, %d, want %d", list, connections, common, len(got), err, total)
		}
	})
	if none < 500 {
		t.Errorf("%d sets of one outside end", none)
	}
}

// Generate has the equations of all sets.
func TestLawGenerated(t *testing.T) {
	t.Parallel()
	count := 0
	groups(105, 3000, func(s *source, list []api.End, connections [][2]api.End, common []api.Field) {
		got, err := connect.Generate(list, connections, everywhere(list, common))
		if err == api.ErrName {
			return // the same Name in two sets, or in one
		}
		var texts []string
		for _, set := range sets(t, list, connections) {
			part, e := connect.Equations(set, common)
			if err != api.OK || e != api.OK || !slices.IsSortedFunc(part, byName) {
				t.Fatalf("Generate(%v, %v, %v): %d, %d", list, connections, common, err, e)
			}
			texts = append(texts, eqTexts(part)...)
		}
		if !slices.IsSortedFunc(got, byName) || !slices.Equal(slices.Sorted(slices.Values(texts)), slices.Sorted(slices.Values(eqTexts(got)))) {
			t.Fatalf("Generate(%v, %v, %v) = %q, by sets %q", list, connections, common, eqTexts(got), texts)
		}
		count += len(got)
	})
	if count < 10000 {
		t.Errorf("%d equations", count)
	}
}

func byName(a, b api.Eq) int {
	return strings.Compare(a.Name, b.Name)
}

// values are those of variables.
type values map[string]int

// holds reports whether all potentials of a set are equal, and its flows sum to 0.
func (v values) holds(set []api.End, common []api.Field) bool {
	if len(set) == 1 && set[0].Outside {
		return true
	}
	for _, f := range common {
		sum := 0
		for _, x := range set {
			value := v[x.Path+"."+f.Name]
			switch {
			case !f.Flow && value != v[set[0].Path+"."+f.Name]:
				return false
			case x.Outside:
				sum -= value
			default:
				sum += value
			}
		}
		if f.Flow && sum != 0 {
			return false
		}
	}
	return true
}

// balance changes the value of one end of each set, so that it mostly holds.
func (v values) balance(set []api.End, common []api.Field) {
	last := set[len(set)-1]
	for _, f := range common {
		name := last.Path + "." + f.Name
		if !f.Flow {
			for _, x := range set {
				v[x.Path+"."+f.Name] = v[name]
			}
			continue
		}
		sum := 0
		for _, x := range set[:len(set)-1] {
			if x.Outside {
				sum -= v[x.Path+"."+f.Name]
			} else {
				sum += v[x.Path+"."+f.Name]
			}
		}
		v[name] = -sum
		if last.Outside {
			v[name] = sum
		}
	}
}

// P10.5
func TestLawMeaning(t *testing.T) {
	t.Parallel()
	seen := map[bool]int{}
	groups(106, 3000, func(s *source, list []api.End, connections [][2]api.End, common []api.Field) {
		eqs, err := connect.Generate(list, connections, everywhere(list, common))
		if err == api.ErrName {
			return
		}
		v := make(values)
		for _, x := range list {
			for _, f := range common {
				v[x.Path+"."+f.Name] = s.below(5) - 2
			}
		}
		found := sets(t, list, connections)
		for _, set := range found {
			if s.below(8) > 0 {
				v.balance(set, common)
			}
		}
		sys := api.System{Eqs: eqs}
		env := api.Env{Time: "0"}
		for _, name := range slices.Sorted(maps.Keys(v)) {
			sys.Vars = append(sys.Vars, api.Var{Name: name})
			env.Binds = append(env.Binds, api.Bind{Use: api.Use{Name: name}, Value: strconv.Itoa(v[name])})
		}
		want := !slices.ContainsFunc(found, func(set []api.End) bool { return !v.holds(set, common) })
		got, err := system.Holds(sys, env)
		if got != want || err != api.OK {
			t.Fatalf("Holds = %v, %d, want %v: %q with %v", got, err, want, eqTexts(eqs), v)
		}
		if len(eqs) > 3 {
			seen[want]++
		}
	})
	if seen[true] < 300 || seen[false] < 300 {
		t.Error(seen)
	}
}

// What is given is not changed, and results share no memory with it, or with one another.
func TestLawNew(t *testing.T) {
	t.Parallel()
	groups(107, 1000, func(s *source, list []api.End, connections [][2]api.End, common []api.Field) {
		all := everywhere(list, common)
		listBefore, linksBefore, fieldsBefore := slices.Clone(list), slices.Clone(connections), everywhere(list, common)
		one, _ := connect.Sets(list, connections)
		two, _ := connect.Sets(list, connections)
		if setsText(one) != setsText(two) || !isNew([][][]api.End{one, two}, list, connections) {
			t.Fatalf("Sets(%v, %v) share memory", list, connections)
		}
		eqs, err := connect.Generate(list, connections, all)
		again, e := connect.Generate(list, connections, all)
		var part, partAgain []api.Eq
		for _, set := range one {
			before := slices.Clone(set)
			part, _ = connect.Equations(set, common)
			partAgain, _ = connect.Equations(set, common)
			if !slices.Equal(set, before) {
				t.Fatalf("Equations changes %v to %v", before, set)
			}
		}
		if err != e || !slices.Equal(eqTexts(eqs), eqTexts(again)) || !isNew([][]api.Eq{eqs, again, part, partAgain}) {
			t.Fatalf("Generate(%v, %v, %v) shares memory", list, connections, all)
		}
		joined(t, list, connections, list[0], pick(s, list...))
		if !slices.Equal(list, listBefore) || !slices.Equal(connections, linksBefore) || !maps.EqualFunc(all, fieldsBefore, slices.Equal) {
			t.Fatalf("%v, %v, %v are now %v, %v, %v", listBefore, linksBefore, fieldsBefore, list, connections, all)
		}
	})
}

package connect_test

import (
	"regexp"
	"slices"
	"strings"
	"testing"

	"linkwork/api"
	"linkwork/connect"
)

// The following is a second way to the results: sets are flooded along connections, equations are written as texts.

var (
	nameForm = regexp.MustCompile(`^[A-Za-z][][A-Za-z0-9_.,']{0,79}$`)
	wordForm = regexp.MustCompile(`^[A-Za-z][A-Za-z0-9_]{0,19}$`)
	nameIn   = regexp.MustCompile(`[^()+=:;# -]+`)
)

const keywords = " and connect connector der discrete else end equation extends false flow for if in initial input loop model not or parameter pre redeclare reinit replaceable sample size sum then time true when "

// before says whether an end is before another one, by a text in which `!` is before all bytes of names.
func before(a, b api.End) int {
	key := func(x api.End) string {
		if x.Outside {
			return x.Path + "!2"
		}
		return x.Path + "!1"
	}
	return strings.Compare(key(a), key(b))
}

// floodedSets returns what Sets should return.
func floodedSets(list []api.End, connections [][2]api.End) ([][]api.End, api.Errno) {
	everywhere := slices.Clone(list)
	for _, link := range connections {
		everywhere = append(everywhere, link[0], link[1])
	}
	for _, x := range everywhere {
		if !nameForm.MatchString(x.Path) {
			return nil, api.ErrForm
		}
	}
	for i, x := range everywhere {
		if slices.Contains(list[:min(i, len(list))], x) == (i < len(list)) {
			return nil, api.ErrName
		}
	}
	if len(list) > 400 || len(connections) > 400 {
		return nil, api.ErrSize
	}
	left := slices.SortedFunc(slices.Values(list), before)
	var found [][]api.End
	for len(left) > 0 {
		set := flood(left[0], connections)
		found = append(found, set)
		left = slices.DeleteFunc(left, func(x api.End) bool { return slices.Contains(set, x) })
	}
	return found, api.OK
}

// flood returns the ends that are reached from an end, in order.
func flood(x api.End, connections [][2]api.End) []api.End {
	set := []api.End{x}
	for i := 0; i < len(set); i++ {
		for _, link := range connections {
			for side, near := range link {
				if far := link[1-side]; near == set[i] && !slices.Contains(set, far) {
					set = append(set, far)
				}
			}
		}
	}
	return slices.SortedFunc(slices.Values(set), before)
}

// writtenEqs returns the texts of the equations of a set, in no order.
func writtenEqs(set []api.End, list []api.Field) ([]string, api.Errno) {
	var texts []string
	ending := func(x api.End) string {
		if x.Outside {
			return ".o"
		}
		return ""
	}
	for i, f := range list {
		isTwice := slices.ContainsFunc(list[:i], func(g api.Field) bool { return g.Name == f.Name })
		if isTwice || !wordForm.MatchString(f.Name) || strings.Contains(keywords, " "+f.Name+" ") {
			return nil, api.ErrForm
		}
		sum := ""
		for j, x := range set {
			text := x.Path + "." + f.Name
			if !f.Flow && j > 0 {
				texts = append(texts, "c'"+text+ending(x)+": "+set[0].Path+"."+f.Name+" = "+text)
			}
			if x.Outside {
				text = "-" + text
			}
			if j > 0 {
				text = "(" + sum + "+" + text + ")"
			}
			sum = text
		}
		if f.Flow && (len(set) > 1 || !set[0].Outside) {
			texts = append(texts, "c'"+set[0].Path+"."+f.Name+ending(set[0])+": "+sum+" = #0")
		}
	}
	for _, text := range texts {
		for _, name := range nameIn.FindAllString(text, -1) {
			if name != "0" && !nameForm.MatchString(name) {
				return nil, api.ErrForm
			}
		}
	}
	return texts, api.OK
}

// inOrder returns texts of equations in the order of their Names; ErrName if two have the same one.
func inOrder(texts []string) ([]string, api.Errno) {
	name := func(text string) string { return strings.SplitN(text, ":", 2)[0] }
	byName := func(a, b string) int { return strings.Compare(name(a), name(b)) }
	texts = slices.SortedFunc(slices.Values(texts), byName)
	if len(slices.CompactFunc(slices.Clone(texts), func(a, b string) bool { return byName(a, b) == 0 })) < len(texts) {
		return nil, api.ErrName
	}
	return texts, api.OK
}

// generated returns the texts of what Generate should return.
func generated(list []api.End, connections [][2]api.End, all map[string][]api.Field) ([]string, api.Errno) {
	found, err := floodedSets(list, connections)
	if err != api.OK {
		return nil, err
	}
	for _, x := range list {
		if _, ok := all[x.Path]; !ok {
			return nil, api.ErrName
		}
	}
	for _, set := range found {
		for _, x := range set {
			for _, f := range slices.Concat(all[x.Path], all[set[0].Path]) {
				if countOf(all[x.Path], f) != countOf(all[set[0].Path], f) {
					return nil, api.ErrType
				}
			}
		}
	}
	var texts []string
	for _, set := range found {
		part, err := writtenEqs(set, all[set[0].Path])
		if err != api.OK {
			return nil, err
		}
		texts = append(texts, part...)
	}
	return inOrder(texts)
}

func countOf(list []api.Field, f api.Field) int {
	count := 0
	for _, g := range list {
		if g == f {
			count++
		}
	}
	return count
}

// someFields returns fields that are mostly well made.
func (s *source) someFields() []api.Field {
	var list []api.Field
	for _, name := range shuffled(s, []string{"i", "o", "p", "v", "Zz_1"})[:s.below(5)] {
		list = append(list, api.Field{Name: name, Flow: s.below(2) == 0})
	}
	if s.below(15) == 0 {
		list = append(list, api.Field{Name: pick(s, "i", "", "end", "v.w", "x[1]", "'", strings.Repeat("x", 20), strings.Repeat("x", 21))})
	}
	return list
}

// sometimes returns a list with an element more, now and then.
func sometimes[T any](s *source, list []T, more ...T) []T {
	if s.below(25) > 0 {
		return list
	}
	return slices.Insert(slices.Clone(list), s.below(len(list)+1), pick(s, more...))
}

func TestSecondWay(t *testing.T) {
	t.Parallel()
	s := source(1010)
	long := endOf(strings.Repeat("x", 60+s.below(20)))
	counts := map[string]map[api.Errno]int{"Sets": {}, "Generate": {}, "Equations": {}, "Joined": {}}
	for range 30000 {
		list := s.someEnds(s.below(8))
		connections := s.someLinks(list, s.below(6))
		bad := []api.End{{}, endOf("^1"), endOf("a b"), endOf(strings.Repeat("y", 81))}
		list = sometimes(&s, sometimes(&s, list, bad...), append(slices.Clone(list), endOf("m"), long, endOf("^"+strings.Repeat("x", 78)))...)
		connections = sometimes(&s, connections, [2]api.End{bad[s.below(4)], endOf("a")}, [2]api.End{endOf("m"), endOf("a")})

		want, wantErr := floodedSets(list, connections)
		got, err := connect.Sets(list, connections)
		if setsText(got) != setsText(want) || err != wantErr {
			t.Fatalf("Sets(%v, %v) = %s, %d, want %s, %d", list, connections, setsText(got), err, setsText(want), wantErr)
		}
		counts["Sets"][err]++

		all := make(map[string][]api.Field)
		usual := s.someFields()
		for _, x := range list {
			all[x.Path] = shuffled(&s, usual)
			if s.below(20) == 0 {
				all[x.Path] = s.someFields()
			}
			if s.below(60) == 0 {
				delete(all, x.Path)
			}
		}
		wantTexts, wantErr := generated(list, connections, all)
		eqs, err := connect.Generate(list, connections, all)
		if !slices.Equal(eqTexts(eqs), wantTexts) || err != wantErr {
			t.Fatalf("Generate(%v, %v, %v) = %q, %d, want %q, %d", list, connections, all, eqTexts(eqs), err, wantTexts, wantErr)
		}
		counts["Generate"][err]++

		set := list
		if s.below(20) > 0 {
			set = slices.SortedFunc(slices.Values(list), before)
		}
		wantTexts, wantErr = nil, api.ErrForm
		isSet := len(set) > 0 && !slices.ContainsFunc(set, func(x api.End) bool { return !nameForm.MatchString(x.Path) })
		for i := range set {
			isSet = isSet && (i == 0 || before(set[i-1], set[i]) < 0)
		}
		if isSet {
			wantTexts, wantErr = writtenEqs(set, usual)
		}
		if wantErr == api.OK {
			wantTexts, wantErr = inOrder(wantTexts)
		}
		eqs, err = connect.Equations(set, usual)
		if !slices.Equal(eqTexts(eqs), wantTexts) || err != wantErr {
			t.Fatalf("Equations(%v, %v) = %q, %d, want %q, %d", set, usual, eqTexts(eqs), err, wantTexts, wantErr)
		}
		counts["Equations"][err]++

		counts["Joined"][compareJoined(t, &s, list, connections)]++
	}
	for name, least := range map[string]map[api.Errno]int{
		"Sets":      {api.OK: 20000, api.ErrForm: 1000, api.ErrName: 500},
		"Generate":  {api.OK: 10000, api.ErrForm: 1000, api.ErrName: 1000, api.ErrType: 1000},
		"Equations": {api.OK: 10000, api.ErrForm: 1000, api.ErrName: 100},
		"Joined":    {api.OK: 10000, api.ErrForm: 1000, api.ErrName: 1000},
	} {
		for err, count := range least {
			if counts[name][err] < count {
				t.Errorf("%s returns %d %d times", name, err, counts[name][err])
			}
		}
	}
}

// compareJoined compares Joined with the second way, for two ends, and returns its error.
func compareJoined(t *testing.T, s *source, list []api.End, connections [][2]api.End) api.Errno {
	t.Helper()
	pair := [2]api.End{}
	for i := range pair {
		pair[i] = pick(s, append(slices.Repeat(list, 2), endOf("q"))...)
	}
	_, wantErr := floodedSets(list, connections)
	for _, x := range pair {
		switch {
		case !nameForm.MatchString(x.Path):
			wantErr = api.ErrForm
		case wantErr == api.OK && !slices.Contains(list, x):
			wantErr = api.ErrName
		}
	}
	want := wantErr == api.OK && slices.Contains(flood(pair[0], connections), pair[1])
	got, err := connect.Joined(list, connections, pair[0], pair[1])
	if got != want || err != wantErr {
		t.Fatalf("Joined(%v, %v, %v) = %v, %d, want %v, %d", list, connections, pair, got, err, want, wantErr)
	}
	return err
}

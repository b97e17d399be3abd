package connect_test

import (
	"fmt"
	"maps"
	"reflect"
	"slices"
	"strings"
	"testing"

	"linkwork/api"
	"linkwork/connect"
)

// endOf returns the end that a text is: its Path, after `^` if it is outside.
func endOf(text string) api.End {
	path, outside := strings.CutPrefix(text, "^")
	return api.End{Path: path, Outside: outside}
}

func endText(x api.End) string {
	if x.Outside {
		return "^" + x.Path
	}
	return x.Path
}

// ends returns the ends that a text lists.
func ends(text string) []api.End {
	var list []api.End
	for _, word := range strings.Fields(text) {
		list = append(list, endOf(word))
	}
	return list
}

// links returns the connections that a text lists (`a.p=^q`).
func links(text string) [][2]api.End {
	var list [][2]api.End
	for _, word := range strings.Fields(text) {
		a, b, _ := strings.Cut(word, "=")
		list = append(list, [2]api.End{endOf(a), endOf(b)})
	}
	return list
}

// fields returns the fields that a text lists; those with Flow have a `~` behind their Names.
func fields(text string) []api.Field {
	var list []api.Field
	for _, word := range strings.Fields(text) {
		name, flow := strings.CutSuffix(word, "~")
		list = append(list, api.Field{Name: name, Flow: flow})
	}
	return list
}

// fieldsAt returns the fields that all ends have.
func fieldsAt(list []api.End, text string) map[string][]api.Field {
	all := make(map[string][]api.Field)
	for _, x := range list {
		all[x.Path] = fields(text)
	}
	return all
}

func setsText(sets [][]api.End) string {
	var texts []string
	for _, set := range sets {
		var words []string
		for _, x := range set {
			words = append(words, endText(x))
		}
		texts = append(texts, strings.Join(words, " "))
	}
	return strings.Join(texts, " | ")
}

// exprText writes the expressions that equations have. What should be empty and is not is written, too.
func exprText(e api.Expr) string {
	text := e.Op
	switch {
	case e.Op == "var" && len(e.Kids) == 0:
		text = e.Text
	case e.Op == "num" && len(e.Kids) == 0:
		text = "#" + e.Text
	case e.Op == "neg" && len(e.Kids) == 1:
		text = "-" + exprText(e.Kids[0]) + e.Text
	case e.Op == "add" && len(e.Kids) == 2:
		text = "(" + exprText(e.Kids[0]) + "+" + exprText(e.Kids[1]) + ")" + e.Text
	}
	if e.Order != 0 {
		text += fmt.Sprint(":", e.Order)
	}
	return text
}

func eqTexts(list []api.Eq) []string {
	var texts []string
	for _, q := range list {
		texts = append(texts, q.Name+": "+exprText(q.Left)+" = "+exprText(q.Right))
	}
	return texts
}

// sets returns what should be no error.
func sets(t *testing.T, list []api.End, connections [][2]api.End) [][]api.End {
	t.Helper()
	got, err := connect.Sets(list, connections)
	if err != api.OK {
		t.Fatalf("Sets(%v, %v): %d", list, connections, err)
	}
	return got
}

// joined returns what should be no error.
func joined(t *testing.T, list []api.End, connections [][2]api.End, a, b api.End) bool {
	t.Helper()
	got, err := connect.Joined(list, connections, a, b)
	if err != api.OK {
		t.Fatalf("Joined(%v, %v, %v, %v): %d", list, connections, a, b, err)
	}
	return got
}

// numbered returns ends p0, p1, ..
func numbered(count int) []api.End {
	var list []api.End
	for i := range count {
		list = append(list, api.End{Path: fmt.Sprint("p", i)})
	}
	return list
}

// source is a row of numbers that look random and are the same in every run.
type source uint64

func (s *source) below(n int) int {
	*s = *s*6364136223846793005 + 1442695040888963407
	return int(uint64(*s) >> 33 % uint64(n))
}

func pick[T any](s *source, list ...T) T {
	return list[s.below(len(list))]
}

// shuffled returns the elements of a list in another order.
func shuffled[T any](s *source, list []T) []T {
	list = slices.Clone(list)
	for i := range list {
		j := i + s.below(len(list)-i)
		list[i], list[j] = list[j], list[i]
	}
	return list
}

// someEnds returns up to count different ends.
func (s *source) someEnds(count int) []api.End {
	seen := make(map[api.End]bool)
	for range count {
		path := pick(s, "a", "b", "a.p", "b.p", "b.q", "a[1].p", "a[2].p", "a[10].p", "c", "c.o", "p", "p[1]", "z.Z")
		seen[api.End{Path: path, Outside: s.below(3) == 0}] = true
	}
	return shuffled(s, slices.SortedFunc(maps.Keys(seen), func(a, b api.End) int { return strings.Compare(endText(a), endText(b)) }))
}

// someLinks returns connections of ends.
func (s *source) someLinks(list []api.End, count int) [][2]api.End {
	var found [][2]api.End
	for range count {
		if len(list) > 0 {
			found = append(found, [2]api.End{pick(s, list...), pick(s, list...)})
		}
	}
	return found
}

// lists adds the places of all lists in a value; false if one of them is there already.
func lists(v reflect.Value, places map[uintptr]bool) bool {
	apart := true
	switch v.Kind() {
	case reflect.Slice:
		if v.Cap() > 0 {
			apart = !places[v.Pointer()]
			places[v.Pointer()] = true
		}
		for i := range v.Len() {
			apart = lists(v.Index(i), places) && apart
		}
	case reflect.Struct:
		for i := range v.NumField() {
			apart = lists(v.Field(i), places) && apart
		}
	}
	return apart
}

// isNew reports whether no two lists of results share memory, nor does one with a list of the arguments.
func isNew(results any, arguments ...any) bool {
	places := make(map[uintptr]bool)
	for _, x := range arguments {
		lists(reflect.ValueOf(x), places)
	}
	return lists(reflect.ValueOf(results), places)
}

package instance_test

import (
	"encoding/json"
	"fmt"
	"reflect"
	"slices"
	"strings"
	"testing"

	"linkwork/api"
	"linkwork/instance"
	"linkwork/syntax"
)

func parse(t *testing.T, text string) []api.Class {
	t.Helper()
	list, err := syntax.Parse(text)
	if err != api.OK {
		t.Fatalf("Parse(%q): %d", text, err)
	}
	return list
}

// mods returns modifications that are written as a source writes them, or none.
func mods(t *testing.T, text string) []api.Mod {
	t.Helper()
	if text == "" {
		return nil
	}
	return parse(t, "model A extends B("+text+"); end A;")[0].Extends[0].Mods
}

// line writes what an instance is.
func line(x api.Inst) string {
	text := x.Path + " " + x.Class
	if x.Kind >= 0 {
		text += " " + []string{"continuous", "discrete", "param", "input"}[x.Kind] + " " + []string{"number", "truth"}[x.Type]
	}
	if x.Value != "" {
		text += " value=" + x.Value
	}
	if x.Start != "" {
		text += " start=" + x.Start
	}
	if x.Fixed {
		text += " fixed"
	}
	if x.Unit != "" {
		text += " unit=" + x.Unit
	}
	if x.Flow {
		text += " flow"
	}
	return text
}

func lines(list []api.Inst) []string {
	var texts []string
	for _, x := range list {
		texts = append(texts, line(x))
	}
	return texts
}

// built returns the instances of the last class of a source, whose text is that of a model M if it has no class.
func built(t *testing.T, text, modified string) ([]api.Inst, api.Errno) {
	t.Helper()
	if !strings.Contains(text, "end ") {
		text = "model M " + text + " end M;"
	}
	lib := parse(t, text)
	return instance.Build(lib, lib[len(lib)-1].Name, mods(t, modified))
}

// listOf returns the instances that texts say, as line writes them, in the order of their Paths.
func listOf(t *testing.T, texts ...string) []api.Inst {
	t.Helper()
	var list []api.Inst
	for _, text := range texts {
		words := strings.Fields(text)
		x := api.Inst{Path: words[0], Class: words[1], Kind: -1}
		for _, word := range words[2:] {
			name, value, _ := strings.Cut(word, "=")
			switch name {
			case "continuous", "discrete", "param", "input":
				x.Kind = slices.Index([]string{"continuous", "discrete", "param", "input"}, name)
			case "truth":
				x.Type = api.Truth
			case "value":
				x.Value = value
			case "start":
				x.Start = value
			case "fixed":
				x.Fixed = true
			case "unit":
				x.Unit = value
			case "flow":
				x.Flow = true
			}
		}
		list = append(list, x)
	}
	slices.SortFunc(list, func(a, b api.Inst) int { return strings.Compare(a.Path, b.Path) })
	return list
}

// scopeText writes a scope: paths with the dimensions of their words, and whole numbers.
func scopeText(s api.Scope) string {
	var texts []string
	for _, p := range s.Paths {
		var parts []string
		for i, word := range strings.Split(p.Name, ".") {
			if len(p.Dims[i]) > 0 {
				word += strings.ReplaceAll(fmt.Sprint(p.Dims[i]), " ", ",")
			}
			parts = append(parts, word)
		}
		texts = append(texts, strings.Join(parts, "."))
	}
	for _, w := range s.Wholes {
		texts = append(texts, fmt.Sprintf("%s=%d", w.Name, w.Value))
	}
	return strings.Join(texts, " ")
}

// same compares all of two values, but that a list may be nil or empty.
func same(a, b any) bool {
	return fmt.Sprintf("%q", a) == fmt.Sprintf("%q", b)
}

// clone returns a copy that shares no memory.
func clone[T any](x T) T {
	text, err := json.Marshal(x)
	if err != nil {
		panic(err)
	}
	var copied T
	if err := json.Unmarshal(text, &copied); err != nil {
		panic(err)
	}
	return copied
}

// lists adds the places of all lists in a value; false if one of them is there already.
func lists(v reflect.Value, places map[uintptr]bool) bool {
	apart := true
	switch v.Kind() {
	case reflect.Slice:
		if v.Cap() > 0 {
			apart = !places[v.Pointer()]
			places[v.Pointer()] = true
		}
		for i := range v.Len() {
			apart = lists(v.Index(i), places) && apart
		}
	case reflect.Struct:
		for i := range v.NumField() {
			apart = lists(v.Field(i), places) && apart
		}
	}
	return apart
}

// isNew reports whether no two lists of results share memory, nor does one with a list of the arguments.
func isNew(results any, arguments ...any) bool {
	places := make(map[uintptr]bool)
	for _, x := range arguments {
		lists(reflect.ValueOf(x), places)
	}
	return lists(reflect.ValueOf(results), places)
}

func libraryText(lib []api.Class) string {
	text, err := syntax.Text(lib)
	if err != api.OK {
		return fmt.Sprintf("%+v", lib)
	}
	return text
}

// source is a row of numbers that look random and are the same in every run.
type source uint64

func (s *source) below(n int) int {
	*s = *s*6364136223846793005 + 1442695040888963407
	return int(uint64(*s) >> 33 % uint64(n))
}

func pick[T any](s *source, list ...T) T {
	return list[s.below(len(list))]
}

// shuffled returns the elements of a list in another order.
func shuffled[T any](s *source, list []T) []T {
	list = slices.Clone(list)
	for i := range list {
		j := i + s.below(len(list)-i)
		list[i], list[j] = list[j], list[i]
	}
	return list
}

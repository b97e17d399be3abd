package names_test

import (
	"encoding/json"
	"fmt"
	"reflect"
	"strings"
	"testing"

	"linkwork/api"
	"linkwork/names"
	"linkwork/syntax"
)

func parse(t *testing.T, text string) []api.Class {
	t.Helper()
	list, err := syntax.Parse(text)
	if err != api.OK {
		t.Fatalf("Parse(%q): %d", text, err)
	}
	return list
}

// mods returns modifications that are written as a source writes them, or none.
func mods(t *testing.T, text string) []api.Mod {
	t.Helper()
	if text == "" {
		return nil
	}
	return parse(t, "model A extends B("+text+"); end A;")[0].Extends[0].Mods
}

// written returns modifications as a source writes them, without blanks but those that are needed.
func written(list []api.Mod) string {
	var texts []string
	for _, m := range list {
		switch {
		case m.Class != "":
			texts = append(texts, "redeclare "+m.Class+" "+m.Name)
		case len(m.Mods) > 0:
			texts = append(texts, m.Name+"("+written(m.Mods)+")")
		default:
			texts = append(texts, m.Name+"="+value(m.Value[0]))
		}
	}
	return strings.Join(texts, ", ")
}

func value(x api.Tree) string {
	if x.Op == "string" {
		return `"` + x.Text + `"`
	}
	text, _ := syntax.Show(x)
	return text
}

// component writes what a component of a full class is.
func component(c api.Comp) string {
	text := c.Class + " " + c.Name
	if c.Prefix != "" {
		text = c.Prefix + " " + text
	}
	if c.Replaceable {
		text = "replaceable " + text
	}
	for _, d := range c.Dims {
		text += "[" + value(d) + "]"
	}
	if len(c.Mods) > 0 {
		text += "(" + written(c.Mods) + ")"
	}
	if len(c.Value) > 0 {
		text += " = " + value(c.Value[0])
	}
	return text
}

func components(list []api.Comp) string {
	var texts []string
	for _, c := range list {
		texts = append(texts, component(c))
	}
	return strings.Join(texts, "; ")
}

func statements(list []api.Stmt) string {
	var texts []string
	for _, s := range list {
		text, _ := syntax.Line(s)
		texts = append(texts, text)
	}
	return strings.Join(texts, " ")
}

// same compares all of two values, but that a list may be nil or empty.
func same(a, b any) bool {
	return fmt.Sprintf("%q", a) == fmt.Sprintf("%q", b)
}

// clone returns a copy that shares no memory.
func clone[T any](x T) T {
	text, err := json.Marshal(x)
	if err != nil {
		panic(err)
	}
	var copied T
	if err := json.Unmarshal(text, &copied); err != nil {
		panic(err)
	}
	return copied
}

// lists adds the places of all lists in a value; false if one of them is there already.
func lists(v reflect.Value, places map[uintptr]bool) bool {
	apart := true
	switch v.Kind() {
	case reflect.Slice:
		if v.Cap() > 0 {
			apart = !places[v.Pointer()]
			places[v.Pointer()] = true
		}
		for i := range v.Len() {
			apart = lists(v.Index(i), places) && apart
		}
	case reflect.Struct:
		for i := range v.NumField() {
			apart = lists(v.Field(i), places) && apart
		}
	}
	return apart
}

// isNew reports whether no two lists of results share memory, nor does one with a list of the arguments.
func isNew(results any, arguments ...any) bool {
	places := make(map[uintptr]bool)
	for _, x := range arguments {
		lists(reflect.ValueOf(x), places)
	}
	return lists(reflect.ValueOf(results), places)
}

// expect asks for the result of Check.
func expect(t *testing.T, text, name string, err api.Errno) {
	t.Helper()
	lib := parse(t, text)
	if got, e := names.Check(lib); got != name || e != err {
		t.Errorf("Check(%s) = %q, %d, want %q, %d", text, got, e, name, err)
	}
	if _, _, e := anyResult(lib); e != err {
		t.Errorf("the other functions, %s: %d, want %d", text, e, err)
	}
}

// anyResult returns what Full, Inherits and Uses return for the first class of a library, if they agree on the error.
func anyResult(lib []api.Class) (api.Class, []string, api.Errno) {
	name := "Real"
	if len(lib) > 0 {
		name = lib[0].Name
	}
	c, e1 := names.Full(lib, name)
	_, e2 := names.Inherits(lib, name, name)
	uses, e3 := names.Uses(lib, name)
	if e1 != e2 || e2 != e3 {
		return c, uses, -1
	}
	return c, uses, e1
}

// fullOf returns the full class of a class of a library that must be sound.
func fullOf(t *testing.T, lib []api.Class, name string) api.Class {
	t.Helper()
	c, err := names.Full(lib, name)
	if err != api.OK {
		at, _ := names.Check(lib)
		t.Fatalf("Full(%s, %s): %d, %s", libraryText(lib), name, err, at)
	}
	return c
}

func libraryText(lib []api.Class) string {
	text, err := syntax.Text(lib)
	if err != api.OK {
		return fmt.Sprintf("%+v", lib)
	}
	return text
}

package names_test

import (
	"fmt"
	"slices"
	"sort"
	"strings"
	"testing"

	"linkwork/api"
	"linkwork/names"
)

// A second way to full classes and to soundness: all that is said of a component is a map by paths, so that a list that
// is put over another one is one map copied over another one. It is for libraries of which no full class is too large.

// saying is all that modifications say: by paths (words with `.` between), and what is said there.
type saying map[[2]string]string

// say adds what modifications say; false if they say something twice.
func (s saying) say(path string, list []api.Mod) bool {
	once := true
	for _, m := range list {
		at, what, text := strings.TrimPrefix(path+"."+m.Name, "."), "value", ""
		switch {
		case m.Class != "":
			what, text = "class", m.Class
		case len(m.Mods) > 0:
			what = "mods"
			once = s.say(at, m.Mods) && once
		default:
			text = fmt.Sprintf("%q", m.Value[0])
		}
		_, there := s[[2]string{at, what}]
		once = once && !there
		s[[2]string{at, what}] = text
	}
	return once
}

// of returns what is said of a component.
func (s saying) of(name string) saying {
	part := saying{}
	for key, text := range s {
		if key[0] == name {
			part[[2]string{"", key[1]}] = text
		} else if within, ok := strings.CutPrefix(key[0], name+"."); ok {
			part[[2]string{within, key[1]}] = text
		}
	}
	return part
}

// place is a component, and what is said of it: its class and its value, too, with an empty path.
type place struct {
	name, prefix string
	replaceable  bool
	dims         string
	said         saying
}

func placeOf(c api.Comp) place {
	p := place{c.Name, c.Prefix, c.Replaceable, fmt.Sprintf("%q", c.Dims), saying{{"", "class"}: c.Class}}
	p.said.say("", c.Mods)
	if len(c.Value) > 0 {
		p.said[[2]string{"", "value"}] = fmt.Sprintf("%q", c.Value[0])
	}
	return p
}

func (p place) class() string {
	return p.said[[2]string{"", "class"}]
}

// text writes a component; that it has modifications is left out, since these are there.
func (p place) text() string {
	var said []string
	for key, text := range p.said {
		if key[1] != "mods" {
			said = append(said, key[0]+" "+key[1]+" "+text)
		}
	}
	sort.Strings(said)
	return fmt.Sprint(p.name, p.prefix, p.replaceable, p.dims, said)
}

// oracle has the classes of a library in which no class inherits from itself.
type oracle map[string]api.Class

// full returns the components of a full class, its Eqs, and its Inits.
func (o oracle) full(name string) ([]place, []api.Stmt, []api.Stmt) {
	var places []place
	var eqs, inits []api.Stmt
	for _, x := range o[name].Extends {
		over := saying{}
		over.say("", x.Mods)
		base, e, i := o.full(x.Class)
		for _, p := range base {
			said := saying{}
			for _, from := range []saying{p.said, over.of(p.name)} {
				for key, text := range from {
					said[key] = text
				}
			}
			p.said = said
			places = append(places, p)
		}
		eqs, inits = append(eqs, e...), append(inits, i...)
	}
	for _, c := range o[name].Comps {
		places = append(places, placeOf(c))
	}
	return places, append(eqs, o[name].Eqs...), append(inits, o[name].Inits...)
}

// at returns the place with a name in a class.
func (o oracle) at(class, name string) (place, bool) {
	places, _, _ := o.full(class)
	for _, p := range places {
		if p.name == name {
			return p, true
		}
	}
	return place{}, false
}

// closure returns which names lead to which others.
func closure(all []string, leads func(a string) []string) map[[2]string]bool {
	led := map[[2]string]bool{}
	for _, a := range all {
		for _, b := range leads(a) {
			led[[2]string{a, b}] = true
		}
	}
	for _, via := range all {
		for _, a := range all {
			for _, b := range all {
				if led[[2]string{a, via}] && led[[2]string{via, b}] {
					led[[2]string{a, b}] = true
				}
			}
		}
	}
	return led
}

func (o oracle) names() []string {
	var list []string
	for name := range o {
		list = append(list, name)
	}
	sort.Strings(list)
	return list
}

func (o oracle) inherits() map[[2]string]bool {
	return closure(o.names(), func(a string) []string {
		var list []string
		for _, x := range o[a].Extends {
			list = append(list, x.Class)
		}
		return list
	})
}

func (o oracle) contains() map[[2]string]bool {
	return closure(o.names(), func(a string) []string {
		var list []string
		places, _, _ := o.full(a)
		for _, p := range places {
			for key, text := range p.said {
				if key[1] == "class" {
					list = append(list, text)
				}
			}
		}
		return list
	})
}

const builtIn = " Real Integer Boolean "

func isBuiltIn(class string) bool {
	return strings.Contains(builtIn, " "+class+" ")
}

// base is N1.
func (o oracle) base(c api.Class) api.Errno {
	for _, x := range c.Extends {
		base, ok := o[x.Class]
		if !ok && !isBuiltIn(x.Class) {
			return api.ErrName
		}
		if !ok || base.Kind != c.Kind {
			return api.ErrType
		}
	}
	return api.OK
}

// named is N3.
func (o oracle) named(c api.Class) bool {
	places, _, _ := o.full(c.Name)
	for i, p := range places {
		if slices.ContainsFunc(places[:i], func(q place) bool { return p.name == q.name }) {
			return false
		}
	}
	for _, x := range c.Extends {
		said := saying{}
		if !said.say("", x.Mods) {
			return false
		}
		for key := range said {
			first, _, _ := strings.Cut(key[0], ".")
			if _, ok := o.at(x.Class, first); !ok {
				return false
			}
		}
	}
	return !slices.ContainsFunc(c.Comps, func(part api.Comp) bool { return !saying{}.say("", part.Mods) })
}

// prefixed is N5.
func (o oracle) prefixed(c api.Class) bool {
	places, eqs, inits := o.full(c.Name)
	for _, p := range places {
		_, valued := p.said[[2]string{"", "value"}]
		class, what := p.class(), p.prefix
		switch {
		case what == "parameter" && !isBuiltIn(class),
			what == "discrete" && class != "Real" && class != "Boolean",
			(what == "input" || what == "flow") && class != "Real",
			what == "flow" && c.Kind != "connector",
			class == "Integer" && what != "parameter",
			class == "Boolean" && what != "parameter" && what != "discrete",
			p.replaceable && isBuiltIn(class),
			valued && what != "parameter",
			c.Kind == "connector" && (class != "Real" || what != "" && what != "flow" || p.dims != "[]"):
			return false
		}
	}
	return c.Kind != "connector" || len(eqs)+len(inits) == 0
}

// classAt returns the class at a path within a place, as all that is said of the place redeclares it, and the place
// that is there by itself; false if there is none.
func (o oracle) classAt(p place, path string) (string, place, bool) {
	class, at := p.class(), p
	if path == "" {
		return class, at, true
	}
	words := strings.Split(path, ".")
	for i, word := range words {
		var ok bool
		if at, ok = o.at(class, word); !ok {
			return "", place{}, false
		}
		class = at.class()
		if text, ok := p.said[[2]string{strings.Join(words[:i+1], "."), "class"}]; ok {
			class = text
		}
	}
	return class, at, true
}

// redeclares is N7.
func (o oracle) redeclares(c api.Class) bool {
	inherits := o.inherits()
	may := func(p place, ok bool, class string) bool {
		return ok && p.replaceable && (class == p.class() || inherits[[2]string{class, p.class()}])
	}
	for _, x := range c.Extends {
		for _, m := range x.Mods {
			if p, ok := o.at(x.Class, m.Name); m.Class != "" && !may(p, ok, m.Class) {
				return false
			}
		}
	}
	places, _, _ := o.full(c.Name)
	for _, p := range places {
		for key, class := range p.said {
			if key[1] == "class" && key[0] != "" {
				_, at, ok := o.classAt(p, key[0])
				if !may(at, ok, class) {
					return false
				}
			}
		}
	}
	return true
}

// modified is N8.
func (o oracle) modified(c api.Class) bool {
	places, _, _ := o.full(c.Name)
	for _, p := range places {
		for key, text := range p.said {
			if !o.mayBeSaid(p, key[0], key[1], strings.HasPrefix(text, `{"string"`)) {
				return false
			}
		}
	}
	return true
}

func (o oracle) mayBeSaid(p place, path, what string, isString bool) bool {
	if path == "" {
		return what != "value" || !isString
	}
	outer, name := "", path
	if i := strings.LastIndex(path, "."); i >= 0 {
		outer, name = path[:i], path[i+1:]
	}
	class, owner, ok := o.classAt(p, outer)
	if !ok {
		return false
	}
	if isBuiltIn(class) {
		given := owner.prefix == "parameter" || owner.prefix == "input"
		return what == "value" && (class == "Real" && name == "unit" && isString ||
			class == "Real" && (name == "start" || name == "fixed") && !isString && !given ||
			class == "Boolean" && name == "start" && !isString && !given)
	}
	at, ok := o.at(class, name)
	return ok && (what != "value" || at.prefix == "parameter" && !isString)
}

// check is what Check returns for classes that are valid and have different names.
func (o oracle) check() (string, api.Errno) {
	inherits, contains := o.inherits(), map[[2]string]bool{}
	rules := []func(c api.Class) api.Errno{
		o.base,
		func(c api.Class) api.Errno { return failed(!inherits[[2]string{c.Name, c.Name}], api.ErrCycle) },
		func(c api.Class) api.Errno { return failed(o.named(c), api.ErrName) },
		func(c api.Class) api.Errno {
			places, _, _ := o.full(c.Name)
			unknown := func(p place) bool { return !isBuiltIn(p.class()) && o[p.class()].Name == "" }
			return failed(!slices.ContainsFunc(places, unknown), api.ErrName)
		},
		func(c api.Class) api.Errno { return failed(o.prefixed(c), api.ErrType) },
		func(c api.Class) api.Errno {
			if len(contains) == 0 {
				contains = o.contains()
			}
			return failed(!contains[[2]string{c.Name, c.Name}], api.ErrCycle)
		},
		func(c api.Class) api.Errno { return failed(o.redeclares(c), api.ErrType) },
		func(c api.Class) api.Errno { return failed(o.modified(c), api.ErrType) },
	}
	for _, rule := range rules {
		for _, name := range o.names() {
			if err := rule(o[name]); err != api.OK {
				return name, err
			}
		}
	}
	return "", api.OK
}

func failed(ok bool, err api.Errno) api.Errno {
	if ok {
		return api.OK
	}
	return err
}

func oracleOf(lib []api.Class) oracle {
	o := oracle{}
	for _, c := range lib {
		o[c.Name] = c
	}
	return o
}

// Full is what the second way says.
func TestOracleFull(t *testing.T) {
	s := source(71)
	seen := map[string]int{}
	for range 1500 {
		lib := s.library(t)
		o := oracleOf(lib)
		for _, c := range lib {
			got := fullOf(t, lib, c.Name)
			places, eqs, inits := o.full(c.Name)
			var a, b []string
			for _, p := range places {
				a = append(a, p.text())
			}
			for _, part := range got.Comps {
				b = append(b, placeOf(part).text())
				if !isOrdered(part.Mods) {
					t.Fatalf("Full(%s, %s): %s", libraryText(lib), c.Name, component(part))
				}
			}
			if !slices.Equal(a, b) || !same(eqs, got.Eqs) || !same(inits, got.Inits) || got.Kind != c.Kind || got.Name != c.Name || len(got.Extends) > 0 {
				t.Fatalf("Full(%s, %s): %v, want %v, %v, %v", libraryText(lib), c.Name, got, a, eqs, inits)
			}
			count(seen, c, got)
		}
	}
	for what, least := range map[string]int{"extends": 2000, "modified": 500, "redeclared": 100, "within": 300, "redeclared within": 100} {
		if seen[what] < least {
			t.Errorf("%s: %d", what, seen[what])
		}
	}
}

// count counts what there is in a class, and in its full class.
func count(seen map[string]int, c, full api.Class) {
	for _, x := range c.Extends {
		seen["extends"]++
		for _, m := range x.Mods {
			seen["modified"]++
			if m.Class != "" {
				seen["redeclared"]++
			}
		}
	}
	var within func(list []api.Mod, depth int)
	within = func(list []api.Mod, depth int) {
		for _, m := range list {
			if depth > 0 {
				seen["within"]++
			}
			if m.Class != "" {
				seen["redeclared within"]++
			}
			within(m.Mods, depth+1)
		}
	}
	for _, part := range full.Comps {
		within(part.Mods, 0)
	}
}

// Check is what the second way says, for libraries of which something was changed.
func TestOracleCheck(t *testing.T) {
	s := source(72)
	seen := map[api.Errno]int{}
	for range 6000 {
		lib := s.broken(t)
		name, err := oracleOf(lib).check()
		if got, e := names.Check(lib); got != name || e != err {
			t.Fatalf("Check(%s) = %q, %d, want %q, %d", libraryText(lib), got, e, name, err)
		}
		seen[err]++
	}
	for _, err := range []api.Errno{api.OK, api.ErrName, api.ErrType, api.ErrCycle} {
		if seen[err] < 150 {
			t.Errorf("the error %d: %d", err, seen[err])
		}
	}
}

package instance_test

import (
	"fmt"
	"slices"
	"strings"
	"testing"

	"linkwork/api"
	"linkwork/instance"
	"linkwork/names"
	"linkwork/shape"
	"linkwork/syntax"
	"linkwork/system"
)

// A second way to instances: all that is said of a place is a map by paths, in which the outermost word is the first
// one; expressions are taken apart by the functions of package shape, and evaluated by those of package system. An error
// is a panic.

func need(ok bool, err api.Errno) {
	if !ok {
		panic(err)
	}
}

// failed returns the error that a function panics with.
func failed(f func()) (err api.Errno) {
	defer func() {
		if e := recover(); e != nil {
			err = e.(api.Errno)
		}
	}()
	f()
	return api.OK
}

type said struct {
	tree api.Tree
	home string
}

type outcome struct {
	err    api.Errno
	isOpen bool // it depends on an error
	dims   []int
	values []string // one, or those of all elements
	scalar bool
}

type oracle struct {
	lib     []api.Class
	values  map[string]said   // by place and name
	redone  map[string]string // classes by place
	inner   map[string]bool   // places with lists
	said    map[string][]string
	places  []string
	comps   map[string]api.Comp
	classes map[string]string
	homes   map[string]string
	needs   map[string][]string
	found   map[string]*outcome
}

func joined(at, word string) string {
	if at == "" {
		return word
	}
	return at + "." + word
}

func (o *oracle) say(at string, list []api.Mod, home string) {
	for _, m := range list {
		p := joined(at, m.Name)
		o.said[at] = append(o.said[at], m.Name)
		switch {
		case m.Class != "":
			if o.redone[p] == "" {
				o.redone[p] = m.Class
			}
		case len(m.Mods) > 0:
			o.inner[p] = true
			o.say(p, m.Mods, home)
		default:
			if _, ok := o.values[p]; !ok {
				o.values[p] = said{m.Value[0], home}
			}
		}
	}
}

func (o *oracle) walk(at, class string) {
	full, _ := names.Full(o.lib, class)
	for _, c := range full.Comps {
		p := joined(at, c.Name)
		if _, ok := o.values[p]; !ok && len(c.Value) > 0 {
			o.values[p] = said{c.Value[0], at}
		}
		o.say(p, c.Mods, at)
		if o.redone[p] != "" {
			c.Class = o.redone[p]
		}
		need(len(o.places) < 400, api.ErrSize)
		o.places = append(o.places, p)
		o.comps[p], o.classes[p], o.homes[p] = c, c.Class, at
		if !isBuiltIn(c.Class) {
			o.walk(p, c.Class)
		}
	}
}

// isAllowed asks package names whether a library with a component that has just one modification is sound.
func (o *oracle) isAllowed(p, name string) bool {
	c := api.Comp{Prefix: strings.TrimPrefix(o.comps[p].Prefix, "flow"), Class: o.classes[p], Name: "c"}
	q := joined(p, name)
	var list []api.Mod
	if v, ok := o.values[q]; ok && slices.Contains(o.said[p], name) {
		if _, isOwn := o.comps[q]; !isOwn || len(o.comps[q].Value) == 0 || v.home != p {
			list = append(list, api.Mod{Name: name, Value: []api.Tree{v.tree}})
		}
	}
	if o.redone[q] != "" {
		list = append(list, api.Mod{Name: name, Class: o.redone[q]})
	}
	if o.inner[q] {
		full, err := names.Full(o.lib, c.Class)
		if err != api.OK || !slices.ContainsFunc(full.Comps, func(c api.Comp) bool { return c.Name == name }) {
			return false
		}
	}
	for _, m := range list {
		c.Mods = []api.Mod{m}
		if _, err := names.Check(append(slices.Clone(o.lib), api.Class{Kind: "model", Name: "Probe", Comps: []api.Comp{c}})); err != api.OK {
			return false
		}
	}
	return true
}

// named returns the places that a tree names.
func (o *oracle) named(t api.Tree, home string) []string {
	var list []string
	if t.Op == "ref" {
		p := home
		for _, part := range t.Kids {
			p = joined(p, part.Text)
		}
		if o.classes[p] != "" {
			list = append(list, p)
		}
	}
	for _, kid := range t.Kids {
		list = append(list, o.named(kid, home)...)
	}
	return list
}

func (o *oracle) isWhole(p string) bool {
	return o.classes[p] == "Integer" && len(o.comps[p].Dims) == 0
}

// link says what depends on what: "D " the dimensions, "V " the value, "S " start, "F " fixed, and a place.
func (o *oracle) link() {
	for _, p := range o.places {
		if o.homes[p] != "" {
			o.needs["D "+p] = append(o.needs["D "+p], "D "+o.homes[p])
		}
		for _, t := range o.comps[p].Dims {
			for _, q := range o.named(t, o.homes[p]) {
				o.needs["D "+p] = append(o.needs["D "+p], "D "+q)
				if o.isWhole(q) {
					o.needs["D "+p] = append(o.needs["D "+p], "V "+q)
				}
			}
		}
		for fact, v := range o.expressions(p) {
			o.needs[fact] = append(o.needs[fact], "D "+p)
			for _, q := range o.named(v.tree, v.home) {
				o.needs[fact] = append(o.needs[fact], "D "+q)
				if o.comps[q].Prefix == "parameter" {
					o.needs[fact] = append(o.needs[fact], "V "+q)
				}
			}
		}
	}
	for fact := range o.needs {
		seen := map[string]bool{}
		next := slices.Clone(o.needs[fact])
		for len(next) > 0 {
			x := next[0]
			next = next[1:]
			need(x != fact, api.ErrCycle)
			if !seen[x] {
				seen[x] = true
				next = append(next, o.needs[x]...)
			}
		}
	}
}

// expressions returns what is said of a place that is of a built-in class.
func (o *oracle) expressions(p string) map[string]said {
	list := map[string]said{}
	if !isBuiltIn(o.classes[p]) {
		return list
	}
	for fact, q := range map[string]string{"V ": p, "S ": p + ".start", "F ": p + ".fixed"} {
		if v, ok := o.values[q]; ok {
			list[fact+p] = v
		} else if fact == "V " && o.comps[p].Prefix == "parameter" {
			list[fact+p] = said{map[bool]api.Tree{true: {Op: "false"}, false: {Op: "num", Text: "0"}}[o.classes[p] == "Boolean"], ""}
		}
	}
	return list
}

// scope returns the scope of an instance, as far as trees name it.
func (o *oracle) scope(home string, t api.Tree) api.Scope {
	var s api.Scope
	for _, q := range o.named(t, home) {
		name := strings.TrimPrefix(q, home+".")
		path := api.Path{Name: name}
		at := home
		for _, word := range strings.Split(name, ".") {
			at = joined(at, word)
			path.Dims = append(path.Dims, slices.Clone(o.find("D "+at).dims))
		}
		s.Paths = append(s.Paths, path)
		if o.isWhole(q) && !strings.Contains(name, ".") && len(o.find("V "+q).values) > 0 {
			var n int
			fmt.Sscan(o.find("V " + q).values[0], &n)
			s.Wholes = append(s.Wholes, api.Whole{Name: name, Value: n})
		}
	}
	slices.SortFunc(s.Paths, func(a, b api.Path) int { return strings.Compare(a.Name, b.Name) })
	slices.SortFunc(s.Wholes, func(a, b api.Whole) int { return strings.Compare(a.Name, b.Name) })
	s.Paths = slices.CompactFunc(s.Paths, func(a, b api.Path) bool { return a.Name == b.Name })
	s.Wholes = slices.Compact(s.Wholes)
	return s
}

func (o *oracle) find(fact string) *outcome {
	if r, ok := o.found[fact]; ok {
		return r
	}
	r := &outcome{}
	o.found[fact] = r
	for _, x := range o.needs[fact] {
		y := o.find(x)
		r.isOpen = r.isOpen || y.isOpen || y.err != api.OK
	}
	if !r.isOpen {
		r.err = failed(func() { o.fill(r, fact) })
	}
	return r
}

func (o *oracle) fill(r *outcome, fact string) {
	p := fact[2:]
	if fact[0] == 'D' {
		for _, t := range o.comps[p].Dims {
			n, err := shape.Value(o.scope(o.homes[p], t), t)
			need(err == api.OK, err)
			need(n >= 0 && n <= 12, api.ErrArg)
			r.dims = append(r.dims, n)
		}
		return
	}
	v := o.expressions(p)[fact]
	s := o.scope(v.home, v.tree)
	d, err := shape.Shape(s, v.tree)
	need(err == api.OK, err)
	own := o.find("D " + p).dims
	need(len(d) == 0 || slices.Equal(d, own), api.ErrDim)
	o.needParameters(v.tree, v.home)
	class := o.classes[p]
	if fact[0] == 'F' {
		class = "Boolean"
	}
	r.scalar = len(d) == 0
	r.values = o.evaluate(v, s, d, class)
}

// needParameters asks that everything that is named is a parameter.
func (o *oracle) needParameters(t api.Tree, home string) {
	switch t.Op {
	case "ref":
		for _, part := range t.Kids {
			home = joined(home, part.Text)
		}
		need(isBuiltIn(o.classes[home]) && o.comps[home].Prefix == "parameter", api.ErrType)
	case "der", "pre", "time", "initial", "sample":
		panic(api.ErrType)
	case "size":
	default:
		for _, kid := range t.Kids {
			o.needParameters(kid, home)
		}
	}
}

// indicesOf returns all indices of a shape.
func indicesOf(d []int) [][]int {
	all := [][]int{nil}
	for _, n := range d {
		var longer [][]int
		for _, index := range all {
			for i := range n {
				longer = append(longer, append(slices.Clone(index), i+1))
			}
		}
		all = longer
	}
	return all
}

func (o *oracle) evaluate(v said, s api.Scope, d []int, class string) []string {
	var list []api.Expr
	vars := map[string]api.Var{}
	for _, index := range indicesOf(d) {
		t, err := shape.Element(s, v.tree, index)
		if err != api.OK {
			panic(fmt.Sprint("an element is too large: ", err))
		}
		list = append(list, o.expr(t, v.home, vars))
	}
	var sys api.System
	for _, x := range vars {
		sys.Vars = append(sys.Vars, x)
	}
	sys, err := system.Sorted(sys)
	if err != api.OK {
		panic(fmt.Sprint("no system: ", err))
	}
	want := api.Number
	if class == "Boolean" {
		want = api.Truth
	}
	isOf := true
	for _, e := range list {
		found, err := system.Type(sys, e)
		need(err == api.OK, api.ErrType)
		isOf = isOf && found == want
	}
	env, _ := system.Params(sys)
	var values []string
	for _, e := range list {
		text, err := system.Eval(sys, e, env)
		need(err == api.OK, err)
		values = append(values, text)
		var n int
		_, e := fmt.Sscanf(text, "%d", &n)
		isOf = isOf && (class != "Integer" || e == nil && fmt.Sprint(n) == text && n >= -1000000 && n <= 1000000)
	}
	need(isOf, api.ErrType)
	return values
}

// expr returns the expression of an element; its refs become variables, which are added.
func (o *oracle) expr(t api.Tree, home string, vars map[string]api.Var) api.Expr {
	if t.Op != "ref" {
		e := api.Expr{Op: t.Op, Text: t.Text}
		for _, kid := range t.Kids {
			e.Kids = append(e.Kids, o.expr(kid, home, vars))
		}
		return e
	}
	name, p, at, own := "", home, 0, 0
	for _, part := range t.Kids {
		p = joined(p, part.Text)
		word := part.Text
		at = 0
		for i, kid := range part.Kids {
			fmt.Sscan(kid.Text, &own)
			at = at*o.find("D " + p).dims[i] + own - 1
			word += map[bool]string{true: "[", false: ","}[i == 0] + kid.Text
		}
		if len(part.Kids) > 0 {
			word += "]"
		}
		name = joined(name, word)
	}
	r := o.find("V " + p)
	if r.scalar {
		at = 0
	}
	v := api.Var{Name: name, Kind: api.Param, Value: r.values[at]}
	if o.classes[p] == "Boolean" {
		v.Type = api.Truth
	}
	vars[name] = v
	return api.Expr{Op: "var", Text: name}
}

// build is Build, of a sound library with a model that takes the modifications.
func (o *oracle) build(name string, list []api.Mod) []api.Inst {
	o.say("", list, "")
	o.walk("", name)
	slices.Sort(o.places)
	for p, words := range o.said {
		for _, word := range words {
			need(p == "" || o.isAllowed(p, word), api.ErrType)
		}
	}
	o.link()
	for _, p := range o.places {
		need(o.find("D "+p).err == api.OK, o.find("D "+p).err)
	}
	for _, p := range o.places {
		for _, fact := range []string{"V ", "S ", "F "} {
			if _, ok := o.expressions(p)[fact+p]; ok {
				need(o.find(fact+p).err == api.OK, o.find(fact+p).err)
			}
		}
		if isBuiltIn(o.classes[p]) {
			o.needTogether(p)
		}
	}
	var all []api.Inst
	for _, p := range o.places {
		all = append(all, o.instances(p)...)
	}
	slices.SortFunc(all, func(a, b api.Inst) int { return strings.Compare(a.Path, b.Path) })
	for _, x := range all {
		need(len(x.Path) <= 80 && len(all) <= 400, api.ErrSize)
	}
	return all
}

func (o *oracle) needTogether(p string) {
	_, hasStart := o.values[p+".start"]
	if _, ok := o.values[p+".fixed"]; ok && !hasStart {
		need(!slices.Contains(o.find("F "+p).values, "true"), api.ErrForm)
	}
	if u, ok := o.values[p+".unit"]; ok {
		need(slices.Contains([]string{"m", "m.s-1", "1", "V(1/2)", "V"}, u.tree.Text), api.ErrForm)
	}
}

// instances returns all instances of a place.
func (o *oracle) instances(p string) []api.Inst {
	paths := []string{""}
	at := ""
	words := strings.Split(p, ".")
	var last [][]int
	for _, word := range words {
		at = joined(at, word)
		last = indicesOf(o.find("D " + at).dims)
		var longer []string
		for _, path := range paths {
			for _, index := range last {
				text := ""
				for i, n := range index {
					text += map[bool]string{true: "[", false: ","}[i == 0] + fmt.Sprint(n)
				}
				if text != "" {
					text += "]"
				}
				longer = append(longer, joined(path, word+text))
			}
		}
		paths = longer
	}
	var list []api.Inst
	for i, path := range paths {
		list = append(list, o.instance(p, path, i%len(last)))
	}
	return list
}

func (o *oracle) instance(p, path string, at int) api.Inst {
	x := api.Inst{Path: path, Class: o.classes[p], Kind: -1}
	if !isBuiltIn(x.Class) {
		return x
	}
	value := func(fact string) string {
		r := o.find(fact + p)
		if len(r.values) == 0 || r.scalar {
			return strings.Join(r.values, "")
		}
		return r.values[at]
	}
	c := o.comps[p]
	x.Kind = map[string]int{"parameter": api.Param, "discrete": api.Discrete}[c.Prefix]
	if c.Prefix == "input" && o.homes[p] == "" {
		x.Kind = api.Input
	}
	x.Flow = c.Prefix == "flow"
	if x.Class == "Boolean" {
		x.Type = api.Truth
	}
	if c.Prefix == "parameter" {
		x.Value = value("V ")
	}
	if _, ok := o.values[p+".start"]; ok {
		x.Start = value("S ")
	}
	if _, ok := o.values[p+".fixed"]; ok {
		x.Fixed = value("F ") == "true"
	}
	x.Unit = o.values[p+".unit"].tree.Text
	return x
}

// oracleBuild is a second way to Build, of a sound library that has the model.
func oracleBuild(lib []api.Class, name string, list []api.Mod) (all []api.Inst, err api.Errno) {
	o := &oracle{lib, map[string]said{}, map[string]string{}, map[string]bool{}, map[string][]string{}, nil, map[string]api.Comp{}, map[string]string{}, map[string]string{}, map[string][]string{}, map[string]*outcome{}}
	extended := append(slices.Clone(lib), api.Class{Kind: "model", Name: "Extended", Extends: []api.Extend{{Class: name, Mods: list}}})
	if _, err := names.Check(extended); err != api.OK {
		return nil, err
	}
	err = failed(func() { all = o.build(name, list) })
	return all, err
}

func TestOracle(t *testing.T) {
	t.Parallel()
	s := source(91)
	seen := map[api.Errno]int{}
	for round := range 600 {
		a, lib := s.library(t, []int{0, 300, 100, 30}[round%4])
		for _, d := range a.drafts[1:] {
			var list []api.Mod
			if s.below(2) == 0 {
				text, _ := a.modsFor(&d, d.members, 2)
				if parsed, err := syntax.Parse("model A extends B" + text + "; end A;"); err == api.OK {
					list = parsed[0].Extends[0].Mods
				}
			}
			want, e := oracleBuild(lib, d.name, list)
			got, err := instance.Build(lib, d.name, list)
			if err != e || !same(got, want) {
				t.Fatalf("Build(%s, %s, %+v) = %q, %d, want %q, %d", libraryText(lib), d.name, list, lines(got), err, lines(want), e)
			}
			seen[e]++
		}
	}
	for e, least := range map[api.Errno]int{api.OK: 1000, api.ErrForm: 20, api.ErrSize: 1, api.ErrArg: 100, api.ErrName: 12, api.ErrType: 30, api.ErrDim: 30, api.ErrCycle: 150, api.ErrZero: 20} {
		if seen[e] < least {
			t.Errorf("the error %d: %d", e, seen[e])
		}
	}
}

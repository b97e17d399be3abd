package instance_test

import (
	"fmt"
	"slices"
	"strconv"
	"strings"
	"testing"

	"linkwork/api"
	"linkwork/names"
	"linkwork/syntax"
)

// author writes sources of libraries whose models can be built more often than not.
type author struct {
	*source
	drafts []draft
	faults int // one expression of so many is a fault; none if it is 0
}

// draft is a class that is written.
type draft struct {
	name, kind string
	text       string
	bases      []string // itself, and what it inherits from
	members    []member // those of its full class
}

// member is a component of a class.
type member struct {
	name, class, prefix string
	dims                []string
	isReplaceable       bool
}

func isBuiltIn(class string) bool {
	return class == "Real" || class == "Integer" || class == "Boolean"
}

// library returns a sound library, and the author, who goes on with it.
func (s *source) library(t *testing.T, faults int) (*author, []api.Class) {
	t.Helper()
	a := &author{source: s, faults: faults}
	lib := a.add(t, nil, "connector Pin Real v(unit = \"V\"); flow Real i; end Pin;")
	a.drafts[0].members = []member{{name: "v", class: "Real"}, {name: "i", class: "Real", prefix: "flow"}}
	for i := range 2 + s.below(4) {
		for try := 0; ; try++ {
			d := a.draft(i)
			list, err := syntax.Parse(d.text)
			if err != api.OK {
				if err == api.ErrForm || try > 500 {
					t.Fatalf("Parse(%s): %d", d.text, err)
				}
				continue
			}
			longer := append(slices.Clone(lib), list...)
			if _, err := names.Check(longer); err == api.OK {
				lib = longer
				a.drafts = append(a.drafts, d)
				break
			} else if try > 500 {
				t.Fatalf("%s: %d", libraryText(longer), err)
			}
		}
	}
	return a, shuffled(s, lib)
}

func (a *author) add(t *testing.T, lib []api.Class, text string) []api.Class {
	list := parse(t, text)
	a.drafts = append(a.drafts, draft{name: list[0].Name, kind: list[0].Kind, text: text, bases: []string{list[0].Name}})
	return append(lib, list...)
}

func (a *author) find(class string) *draft {
	for i := range a.drafts {
		if a.drafts[i].name == class {
			return &a.drafts[i]
		}
	}
	return nil
}

// draft returns a new model.
func (a *author) draft(number int) draft {
	d := draft{name: "M" + strconv.Itoa(number), kind: "model"}
	d.bases = []string{d.name}
	var parts []string
	if len(a.drafts) > 1 && a.below(2) == 0 {
		base := a.drafts[1+a.below(len(a.drafts)-1)]
		d.members = slices.Clone(base.members)
		d.bases = append(d.bases, base.bases...)
		text := "extends " + base.name
		list, replaced := a.modsFor(&d, base.members, 2)
		for i, m := range d.members {
			if class, ok := replaced[m.name]; ok {
				d.members[i].class = class
			}
		}
		parts = append(parts, text+list+";")
	}
	for i := range 1 + a.below(6) {
		parts = append(parts, a.component(&d, strconv.Itoa(number)+pick(a.source, "", "_")+strconv.Itoa(i)))
	}
	d.text = "model " + d.name + " " + strings.Join(shuffled(a.source, parts), " ") + " end " + d.name + ";"
	return d
}

// component adds a component to a draft, and returns its text.
func (a *author) component(d *draft, suffix string) string {
	m := member{class: "Real"}
	kinds := []string{"n", "n", "k", "k", "b", "x", "x", "d", "i"}
	if len(a.drafts) > 0 {
		kinds = append(kinds, "p", "p", "p", "p", "p")
	}
	m.name = pick(a.source, kinds...)
	for range a.below(3) * a.below(2) {
		m.dims = append(m.dims, a.dim(d))
	}
	if len(m.dims) == 1 && a.below(3) == 0 {
		m.dims = append(m.dims, a.dim(d))
	}
	switch m.name {
	case "n":
		m.prefix, m.class = "parameter", "Integer"
		if a.below(3) > 0 {
			m.dims = nil
		}
	case "k":
		m.prefix = "parameter"
	case "b":
		m.prefix, m.class = pick(a.source, "parameter", "parameter", "discrete"), "Boolean"
	case "d":
		m.prefix = "discrete"
	case "i":
		m.prefix = "input"
	case "p":
		m.class = pick(a.source, a.drafts...).name
		m.isReplaceable = a.below(2) == 0
	}
	m.name += suffix
	text := m.class + " " + m.name
	if m.prefix != "" {
		text = m.prefix + " " + text
	}
	if m.isReplaceable {
		text = "replaceable " + text
	}
	if len(m.dims) > 0 {
		text += "[" + strings.Join(m.dims, ", ") + "]"
	}
	if inner, _ := a.modsOf(d, m, 2); inner != "" {
		text += inner
	}
	if m.prefix == "parameter" && a.below(5) > 0 {
		text += " = " + a.valueOf(d, m, m.class)
	}
	d.members = append(d.members, m)
	return text + ";"
}

// modsOf returns the text of modifications of a member, in a draft; of a part with the classes that are put in.
func (a *author) modsOf(d *draft, m member, depth int) (string, map[string]string) {
	if !isBuiltIn(m.class) {
		if depth == 0 || a.find(m.class) == nil {
			return "", nil
		}
		return a.modsFor(d, a.find(m.class).members, depth-1)
	}
	var list []string
	if m.prefix != "parameter" && m.prefix != "input" && a.below(2) == 0 {
		list = append(list, "start = "+a.valueOf(d, m, m.class))
		if m.class == "Real" && a.below(2) == 0 {
			list = append(list, "fixed = "+a.valueOf(d, m, "Boolean"))
		}
	}
	if m.class == "Real" && (len(list) == 0 || list[0][0] == 's') && a.below(3) == 0 {
		list = append(list, "unit = "+pick(a.source, `"m"`, `"m.s-1"`, `"1"`, `"V(1/2)"`))
	}
	if a.isFault() && m.class == "Real" && m.prefix != "parameter" && m.prefix != "input" {
		list = []string{pick(a.source, `fixed = true`, `unit = "2"`, `unit = ""`, "start = true")}
	}
	if len(list) == 0 {
		return "", nil
	}
	return "(" + strings.Join(shuffled(a.source, list), ", ") + ")", nil
}

// modsFor returns the text of modifications for members, in a draft, and the classes that are put in.
func (a *author) modsFor(d *draft, members []member, depth int) (string, map[string]string) {
	var list []string
	replaced := map[string]string{}
	for _, m := range members {
		if a.below(3) > 0 {
			continue
		}
		if m.isReplaceable && a.below(2) == 0 {
			var fit []string
			for _, x := range a.drafts {
				if slices.Contains(x.bases, m.class) {
					fit = append(fit, x.name)
				}
			}
			m.class = pick(a.source, fit...)
			replaced[m.name] = m.class
			list = append(list, "redeclare "+m.class+" "+m.name)
		}
		if m.prefix == "parameter" && a.below(2) == 0 {
			list = append(list, m.name+" = "+a.valueOf(d, m, m.class))
		}
		if inner, _ := a.modsOf(d, m, depth); inner != "" {
			list = append(list, m.name+inner)
		}
	}
	if len(list) == 0 {
		return "", replaced
	}
	return "(" + strings.Join(shuffled(a.source, list), ", ") + ")", replaced
}

func (a *author) isFault() bool {
	return a.faults > 0 && a.below(a.faults) == 0
}

// dim returns the text of a dimension.
func (a *author) dim(d *draft) string {
	if a.isFault() {
		return pick(a.source, "13", "-1", "1/0", "3/2", "nothing", "1000000 * 2", "size(nothing, 1)", "1 < 2")
	}
	var wholes []string
	for _, r := range a.refs(d) {
		if r.class == "Integer" && r.isParameter && len(r.free) == 0 && !strings.ContainsAny(r.text, ".[") {
			wholes = append(wholes, r.text)
		}
		if len(r.free) > 0 && a.below(4) == 0 {
			wholes = append(wholes, "size("+r.text+", 1)")
		}
	}
	if len(wholes) > 0 && a.below(2) == 0 {
		return pick(a.source, wholes...) + pick(a.source, "", "", "", " - 1", " + 1")
	}
	return pick(a.source, "1", "2", "2", "3", "2 - 1", "4 / 2", "0")
}

// reference is a ref that may be written in a draft.
type reference struct {
	text, class string
	isParameter bool
	free        []string // the dimensions that it has
}

// refs returns refs to all that a draft has so far.
func (a *author) refs(d *draft) []reference {
	var list []reference
	var visit func(prefix string, free []string, members []member, depth int)
	visit = func(prefix string, free []string, members []member, depth int) {
		for _, m := range members {
			r := reference{text: prefix + m.name, class: m.class, isParameter: m.prefix == "parameter", free: slices.Clone(free)}
			if len(m.dims) > 0 && a.below(2) == 0 {
				var index []string
				for range m.dims {
					index = append(index, pick(a.source, "1", "1", "1", "1", "1", "2", "2 - 1", "size("+m.name+", 1)"))
				}
				r.text += "[" + strings.Join(index, ", ") + "]"
			} else {
				r.free = append(r.free, m.dims...)
			}
			list = append(list, r)
			if x := a.find(m.class); x != nil && depth > 0 {
				visit(r.text+".", r.free, x.members, depth-1)
			}
		}
	}
	visit("", nil, d.members, 2)
	return list
}

// valueOf returns the text of a value of a class, for a member.
func (a *author) valueOf(d *draft, m member, class string) string {
	if a.isFault() {
		return pick(a.source, "1 / 0", "nothing", "time", "{1, 2, 3, 4, 5}", "if true then 1 else true", "1 + true", "not 1",
			"true", "0", "1/2", "1000001", "der(nothing)", "initial()", "sample(0, 1)", "{1, true}", "if false then 1/0 else 2", "{1/0, 2}", "true and 1/0 == 1", "false and 1/0 == 1",
			"true or 1/0 == 1", m.name)
	}
	refs := a.refs(d)
	if a.below(4) == 0 && len(m.dims) > 0 {
		return a.array(refs, m.dims, class, 2)
	}
	return a.scalar(refs, class, 3)
}

// array returns the text of an expression with these dimensions.
func (a *author) array(refs []reference, dims []string, class string, depth int) string {
	var fit []string
	for _, r := range refs {
		if r.isParameter && r.class == class && slices.Equal(r.free, dims) {
			fit = append(fit, r.text)
		}
	}
	if len(fit) > 0 && a.below(3) > 0 {
		return pick(a.source, fit...)
	}
	if depth > 0 && class == "Real" {
		switch a.below(5) {
		case 0:
			return "(" + a.scalar(refs, class, 1) + ") * (" + pick(a.source, "", "-") + "(" + a.array(refs, dims, class, depth-1) + "))"
		case 1:
			return "if " + a.scalar(refs, "Boolean", 1) + " then " + a.array(refs, dims, class, depth-1) + " else " + a.array(refs, dims, class, depth-1)
		case 2:
			return "(" + a.array(refs, dims, class, depth-1) + ") / 3 - (" + a.array(refs, dims, class, depth-1) + ")"
		}
	}
	n, err := strconv.Atoi(dims[0])
	if err != nil || n < 1 || n > 4 {
		return a.scalar(refs, class, 1)
	}
	var kids []string
	for range n {
		if len(dims) > 1 {
			kids = append(kids, a.array(refs, dims[1:], class, 0))
		} else {
			kids = append(kids, a.scalar(refs, class, 1))
		}
	}
	return "{" + strings.Join(kids, ", ") + "}"
}

// scalar returns the text of a scalar expression.
func (a *author) scalar(refs []reference, class string, depth int) string {
	var fit, sums, sizes []string
	for _, r := range refs {
		switch {
		case r.isParameter && len(r.free) == 0 && (r.class == class || class == "Real" && r.class == "Integer"):
			fit = append(fit, r.text)
		case r.isParameter && len(r.free) < 3 && len(r.free) > 0 && r.class != "Boolean":
			sums = append(sums, "sum("+r.text+")")
		case len(r.free) == 1:
			sizes = append(sizes, "size("+r.text+", 1)")
		}
	}
	if class == "Real" {
		fit = append(fit, sums...)
		fit = append(fit, sizes...)
	}
	if len(fit) > 0 && a.below(3) > 0 {
		return pick(a.source, fit...)
	}
	if depth == 0 || a.below(3) == 0 {
		switch class {
		case "Boolean":
			return pick(a.source, "true", "false")
		case "Integer":
			return pick(a.source, "1", "2", "2", "3", "1", "3")
		}
		return pick(a.source, "1", "2", "5/2", "0", "1/3", "0.25", "999999999999999")
	}
	kid := func(class string) string { return "(" + a.scalar(refs, class, depth-1) + ")" }
	switch class {
	case "Boolean":
		return pick(a.source, "not "+kid(class), kid(class)+" and "+kid(class), kid(class)+" or "+kid(class), kid("Real")+" < "+kid("Real"),
			kid("Real")+" >= "+kid("Real"), kid("Real")+" <= "+kid("Real"), kid("Real")+" > "+kid("Real"), kid("Real")+" == "+kid("Real"), kid(class)+" <> "+kid(class))
	case "Integer":
		return pick(a.source, kid(class)+" + 1 - "+kid(class), "if "+kid("Boolean")+" then "+kid(class)+" else "+kid(class), kid(class)+" * 2 / 2")
	}
	return pick(a.source, kid(class)+" + "+kid(class), "-"+kid(class), kid(class)+" * "+kid(class), kid(class)+" - "+kid(class),
		kid(class)+" / "+pick(a.source, "3", "7", kid(class)), "if "+kid("Boolean")+" then "+kid(class)+" else "+kid(class), fmt.Sprintf("sum({%s, %s})", kid(class), kid(class)))
}

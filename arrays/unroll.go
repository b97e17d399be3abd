package arrays

import (
	"strconv"
	"strings"

	"linkwork/api"
	"linkwork/spelling"
)

const (
	maxLines  = 400
	maxRounds = 4000 // how often bodies of for are gone through
)

// loop is the names in the body of a for: those around it, but for its variable.
type loop struct {
	Names
	variable string
	value    int
}

func (in loop) Whole(word string) (int, bool) {
	if word == in.variable {
		return in.value, true
	}
	return in.Names.Whole(word)
}

// unroller makes the lines of a statement.
type unroller struct {
	lines  []api.Line
	rounds int
}

// stmt makes the lines of a statement with a name, whose bodies are in order.
func (u *unroller) stmt(in Names, name string, x api.Stmt) api.Errno {
	switch x.Kind {
	case kindFor:
		return u.loop(in, name, x)
	case kindIf:
		return u.choice(in, name, x)
	case kindWhen:
		return u.trigger(in, name, x)
	}
	return u.pair(in, name, x)
}

func (u *unroller) body(in Names, name string, list []api.Stmt) api.Errno {
	for i, x := range list {
		if err := u.stmt(in, name+"."+strconv.Itoa(i+1), x); err != api.OK {
			return err
		}
	}
	return api.OK
}

func (u *unroller) loop(in Names, name string, x api.Stmt) api.Errno {
	from, err := valueOf(in, x.From[0])
	if err != api.OK {
		return err
	}
	to, err := valueOf(in, x.To[0])
	if err != api.OK {
		return err
	}
	for v := from; v <= to; v++ {
		u.rounds++
		if u.rounds > maxRounds {
			return api.ErrSize
		}
		if err := u.body(loop{in, x.Var, v}, name+bracketed(v), x.Body); err != api.OK {
			return err
		}
	}
	return api.OK
}

func (u *unroller) choice(in Names, name string, x api.Stmt) api.Errno {
	cond := x.Cond[0]
	v, ok := wholeOf(in, cond)
	yes := v != 0
	if !ok {
		var err api.Errno
		yes, err = truthOf(in, cond)
		if err != api.OK {
			return err
		}
	}
	if yes {
		return u.body(in, name, x.Body)
	}
	return u.body(in, name, x.Else)
}

// pair makes the lines of an equality or a connection.
func (u *unroller) pair(in Names, name string, x api.Stmt) api.Errno {
	isPath := x.Kind == kindConnect
	left, right := side{x.Left[0], isPath}, side{x.Right[0], isPath}
	d, err := left.shape(in)
	if err != api.OK {
		return err
	}
	other, err := right.shape(in)
	if err != api.OK {
		return err
	}
	if d != other {
		return api.ErrDim
	}
	for index := range d.indices() {
		line := api.Stmt{Kind: x.Kind, Left: left.element(in, index), Right: right.element(in, index)}
		if err := u.add(name+bracketed(index...), line); err != api.OK {
			return err
		}
	}
	return api.OK
}

// trigger makes the line of a when.
func (u *unroller) trigger(in Names, name string, x api.Stmt) api.Errno {
	cond, err := side{x.Cond[0], false}.single(in)
	if err != api.OK {
		return err
	}
	line := api.Stmt{Kind: x.Kind, Cond: cond}
	for _, act := range x.Body {
		left, err := side{act.Left[0], true}.single(in)
		if err != api.OK {
			return err
		}
		right, err := side{act.Right[0], false}.single(in)
		if err != api.OK {
			return err
		}
		line.Body = append(line.Body, api.Stmt{Kind: act.Kind, Left: left, Right: right})
	}
	return u.add(name, line)
}

func (u *unroller) add(name string, x api.Stmt) api.Errno {
	switch {
	case !spelling.IsName(name):
		return api.ErrForm
	case stmtError(x) != api.OK || len(u.lines) == maxLines:
		return api.ErrSize
	}
	u.lines = append(u.lines, api.Line{Name: name, Stmt: x})
	return api.OK
}

// bracketed returns an index as it stands in a name.
func bracketed(index ...int) string {
	if len(index) == 0 {
		return ""
	}
	var texts []string
	for _, k := range index {
		texts = append(texts, strconv.Itoa(k))
	}
	return "[" + strings.Join(texts, ",") + "]"
}

// side is an expression of a statement. If it isPath, it is a ref, and no whole number.
type side struct {
	tree   api.Tree
	isPath bool
}

func (x side) shape(in Names) (dims, api.Errno) {
	if x.isPath {
		return pathShape(in, x.tree)
	}
	return shapeOf(in, x.tree)
}

func (x side) element(in Names, index []int) []api.Tree {
	m := &maker{Names: in}
	if x.isPath {
		return []api.Tree{m.ref(x.tree, index)}
	}
	return []api.Tree{m.element(x.tree, index)}
}

// single returns the element of a side that must be a scalar.
func (x side) single(in Names) ([]api.Tree, api.Errno) {
	d, err := x.shape(in)
	switch {
	case err != api.OK:
		return nil, err
	case d != scalar:
		return nil, api.ErrDim
	}
	return x.element(in, nil), api.OK
}

// Package arrays finds the shapes, the values and the elements of expressions with arrays, and takes statements of
// arrays apart. It is no layer: package shape has these functions for scopes, which have limits, while the layers that
// look at a whole tree of components (package instance) have names without limits.
package arrays

import (
	"linkwork/api"
	"linkwork/spelling"
	"linkwork/syntax"
)

// Names is what words mean at the place of an expression.
type Names interface {
	// Path returns the dimensions of each word of a path; false if there is no such path.
	Path(name string) ([][]int, bool)
	// Whole returns the whole number that a word is; false if it is none.
	Whole(word string) (int, bool)
}

// Value returns the value of a whole expression.
func Value(in Names, t api.Tree) (int, api.Errno) {
	if !syntax.IsExpr(t) {
		return 0, api.ErrForm
	}
	return valueOf(in, t)
}

// Shape returns the shape of an expression.
func Shape(in Names, t api.Tree) ([]int, api.Errno) {
	if !syntax.IsExpr(t) {
		return nil, api.ErrForm
	}
	d, err := shapeOf(in, t)
	if err != api.OK {
		return nil, err
	}
	return d.numbers(), api.OK
}

// Element returns an element of an expression.
func Element(in Names, t api.Tree, index []int) (api.Tree, api.Errno) {
	if !syntax.IsExpr(t) {
		return api.Tree{}, api.ErrForm
	}
	d, err := shapeOf(in, t)
	if err != api.OK {
		return api.Tree{}, err
	}
	if !d.has(index) {
		return api.Tree{}, api.ErrArg
	}
	m := &maker{Names: in}
	x := m.element(t, index)
	if !syntax.IsExpr(x) {
		return api.Tree{}, api.ErrSize
	}
	return x, api.OK
}

// Unroll returns the lines of a statement.
func Unroll(in Names, name string, x api.Stmt) ([]api.Line, api.Errno) {
	if !spelling.IsName(name) {
		return nil, api.ErrForm
	}
	if err := stmtError(x); err != api.OK {
		return nil, err
	}
	u := &unroller{}
	if err := u.stmt(in, name, inOrder(x)); err != api.OK {
		return nil, err
	}
	return u.lines, api.OK
}

// stmtError returns why a statement is none that may be among the equations of a class.
func stmtError(x api.Stmt) api.Errno {
	return syntax.Check(api.Class{Kind: "model", Name: "Any", Eqs: []api.Stmt{x}})
}

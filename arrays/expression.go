package arrays

import (
	"slices"
	"strings"

	"linkwork/api"
)

// shapeOf returns the shape of an expression.
func shapeOf(in Names, t api.Tree) (dims, api.Errno) {
	switch t.Op {
	case opRef:
		if _, ok := wholeOf(in, t); ok {
			return scalar, api.OK
		}
		return pathShape(in, t)
	case opDer, api.Pre:
		return pathShape(in, t.Kids[0])
	case opSize:
		_, err := valueOf(in, t)
		return scalar, err
	case api.Sample:
		if !isConstant(t.Kids[0]) || !isConstant(t.Kids[1]) {
			return scalar, api.ErrType
		}
		return scalar, api.OK
	}
	var kids []dims
	for _, kid := range t.Kids {
		d, err := shapeOf(in, kid)
		if err != api.OK {
			return scalar, err
		}
		kids = append(kids, d)
	}
	d, fits := combined(t.Op, kids)
	if !fits {
		return scalar, api.ErrDim
	}
	return d, api.OK
}

// combined returns the shape of what an operator makes of kids with these shapes; false if they do not fit.
func combined(op string, kids []dims) (dims, bool) {
	switch op {
	case opSum:
		n := kids[0].count()
		return scalar, n == 1 || n == 2
	case opList:
		d, fits := dimsOf(append([]int{len(kids)}, kids[0].numbers()...))
		return d, fits && areAll(kids, kids[0])
	case api.Neg:
		return kids[0], true
	case api.Add, api.Sub:
		return kids[0], kids[0] == kids[1]
	case api.Mul:
		if kids[0] == scalar {
			return kids[1], true
		}
		return kids[0], kids[1] == scalar
	case api.Div:
		return kids[0], kids[1] == scalar
	case api.If:
		return kids[1], kids[0] == scalar && kids[1] == kids[2]
	}
	return scalar, areAll(kids, scalar)
}

// areAll reports whether all shapes are one shape.
func areAll(list []dims, d dims) bool {
	return !slices.ContainsFunc(list, func(other dims) bool { return other != d })
}

// isConstant reports whether a tree is a number without refs, as the kids of sample are.
func isConstant(t api.Tree) bool {
	switch t.Op {
	case api.Num, api.Neg, api.Add, api.Sub, api.Mul, api.Div:
		return !slices.ContainsFunc(t.Kids, func(kid api.Tree) bool { return !isConstant(kid) })
	}
	return false
}

// pathShape returns the shape of a ref where it is a path.
func pathShape(in Names, ref api.Tree) (dims, api.Errno) {
	words, ok := pathOf(in, ref)
	if !ok {
		return scalar, api.ErrName
	}
	var numbers []int
	for i, part := range ref.Kids {
		if len(part.Kids) == 0 {
			numbers = append(numbers, words[i]...)
		} else if err := indexError(in, part.Kids, words[i]); err != api.OK {
			return scalar, err
		}
	}
	d, fits := dimsOf(numbers)
	if !fits {
		return scalar, api.ErrDim
	}
	return d, api.OK
}

// pathOf returns the dimensions of each part of a ref; false if it is no path.
func pathOf(in Names, ref api.Tree) ([][]int, bool) {
	var words []string
	for _, part := range ref.Kids {
		words = append(words, part.Text)
	}
	return in.Path(strings.Join(words, "."))
}

// indexError returns why the kids of a part are no index of its word.
func indexError(in Names, kids []api.Tree, numbers []int) api.Errno {
	if len(kids) != len(numbers) {
		return api.ErrDim
	}
	for i, kid := range kids {
		k, err := valueOf(in, kid)
		switch {
		case err != api.OK:
			return err
		case k < 1 || k > numbers[i]:
			return api.ErrArg
		}
	}
	return api.OK
}

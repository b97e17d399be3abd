package instance

import (
	"slices"

	"linkwork/api"
)

// typeOf returns the type of an expression of parameters, all of whose names are known; false if it is none.
func (in view) typeOf(t api.Tree) (int, bool) {
	switch t.Op {
	case api.Num, opSize:
		return api.Number, true
	case api.True, api.False:
		return api.Truth, true
	case opRef:
		return in.typeOfRef(t)
	case opDer, api.Pre, api.Time, api.Initial, api.Sample:
		return 0, false
	}
	var kids []int
	for _, kid := range t.Kids {
		found, ok := in.typeOf(kid)
		if !ok {
			return 0, false
		}
		kids = append(kids, found)
	}
	return resultType(t.Op, kids)
}

// typeOfRef returns the type of a parameter; false if it is something else.
func (in view) typeOfRef(ref api.Tree) (int, bool) {
	path, _ := in.at.along(wordsOf(ref))
	value, ok := path[len(path)-1].given()
	if !ok {
		return 0, false
	}
	return typeIn(value.class), true
}

// resultType returns the type of what an operator makes of kids with these types; false if it asks for others.
func resultType(op string, kids []int) (int, bool) {
	switch op {
	case api.Neg, api.Add, api.Sub, api.Mul, api.Div, opSum:
		return api.Number, areAll(kids, api.Number)
	case api.Less, api.AtMost, api.More, api.AtLeast:
		return api.Truth, areAll(kids, api.Number)
	case api.Equal, api.Unequal:
		return api.Truth, areAll(kids, kids[0])
	case api.And, api.Or, api.Not:
		return api.Truth, areAll(kids, api.Truth)
	case api.If:
		return kids[1], kids[0] == api.Truth && kids[1] == kids[2]
	}
	return kids[0], areAll(kids, kids[0]) // a list
}

func areAll(kids []int, want int) bool {
	return !slices.ContainsFunc(kids, func(found int) bool { return found != want })
}

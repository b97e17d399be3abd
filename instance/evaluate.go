package instance

import (
	"slices"
	"strconv"

	"linkwork/api"
	"linkwork/arrays"
)

// elements returns the values of all elements of an expression that has a shape and a type, in the order of their
// indices. Where there are none, nothing is evaluated.
func (in view) elements(t api.Tree) ([]value, api.Errno) {
	numbers, _ := arrays.Shape(in, t)
	if slices.Contains(numbers, 0) {
		return nil, api.OK
	}
	return in.values(t)
}

// values returns the values of all elements of an expression that has some. All elements are evaluated together, so
// that the scalars in them, which may have sums of many elements, are evaluated once.
func (in view) values(t api.Tree) ([]value, api.Errno) {
	switch t.Op {
	case api.Num:
		return []value{textNumber(t.Text)}, api.OK
	case api.True, api.False:
		return []value{{truth: t.Op == api.True}}, api.OK
	case opRef:
		return in.refValues(t)
	case opSize:
		n, _ := arrays.Value(in, t)
		return []value{textNumber(strconv.Itoa(n))}, api.OK
	case opSum:
		return in.sum(t.Kids[0])
	case opList:
		return in.listValues(t.Kids)
	case api.If, api.And, api.Or:
		return in.chosen(t)
	}
	return in.operated(t)
}

// refValues returns the values of a ref: those of the last place, once for each index of what it is in.
func (in view) refValues(ref api.Tree) ([]value, api.Errno) {
	path, _ := in.at.along(wordsOf(ref))
	last := len(path) - 1
	times := 1
	for i, p := range path[:last] {
		if len(ref.Kids[i].Kids) == 0 {
			times *= p.count()
		}
	}
	given, _ := path[last].given()
	if given.isLong {
		return nil, tooLong
	}
	own := given.all()
	if index := ref.Kids[last].Kids; len(index) > 0 {
		at := in.offset(path[last], index)
		own = own[at : at+1]
	}
	return slices.Repeat(own, times), api.OK
}

// offset returns how many elements of a place come before the one with an index.
func (in view) offset(p *place, index []api.Tree) int {
	at := 0
	for i, t := range index {
		n, _ := arrays.Value(in, t)
		at = at*p.dims[i] + n - 1
	}
	return at
}

func (in view) listValues(kids []api.Tree) ([]value, api.Errno) {
	var all []value
	for _, kid := range kids {
		values, err := in.values(kid)
		if err != api.OK {
			return nil, err
		}
		all = append(all, values...)
	}
	return all, api.OK
}

func (in view) sum(t api.Tree) ([]value, api.Errno) {
	values, err := in.elements(t)
	if err != api.OK {
		return nil, err
	}
	var total value
	for _, v := range values {
		total, err = numberOf(total.number.Plus(v.number))
		if err != api.OK {
			return nil, err
		}
	}
	return []value{total}, api.OK
}

// chosen returns the values of an operator that needs its other kids only if its first one is so.
func (in view) chosen(t api.Tree) ([]value, api.Errno) {
	first, err := in.values(t.Kids[0])
	if err != api.OK {
		return nil, err
	}
	switch truth := first[0].truth; {
	case t.Op == api.If && !truth:
		return in.values(t.Kids[2])
	case t.Op == api.If || truth == (t.Op == api.And):
		return in.values(t.Kids[1])
	}
	return first, api.OK
}

// operated returns the values of an operator that needs all of its kids. A scalar stands for as many elements as
// another kid has.
func (in view) operated(t api.Tree) ([]value, api.Errno) {
	var kids [][]value
	length := 1
	for _, kid := range t.Kids {
		values, err := in.values(kid)
		if err != api.OK {
			return nil, err
		}
		kids = append(kids, values)
		length = max(length, len(values))
	}
	var results []value
	for i := range length {
		var operands []value
		for _, values := range kids {
			operands = append(operands, values[i%len(values)])
		}
		v, err := operate(t.Op, operands)
		if err != api.OK {
			return nil, err
		}
		results = append(results, v)
	}
	return results, api.OK
}

// operate returns what an operator makes of single values.
func operate(op string, operands []value) (value, api.Errno) {
	v, w := operands[0], operands[len(operands)-1]
	switch op {
	case api.Not:
		return truthOf(!v.truth)
	case api.Neg:
		return numberOf(v.number.Negated())
	case api.Add:
		return numberOf(v.number.Plus(w.number))
	case api.Sub:
		return numberOf(v.number.Minus(w.number))
	case api.Mul:
		return numberOf(v.number.Times(w.number))
	case api.Div:
		quotient, ok := v.number.Over(w.number)
		if !ok {
			return value{}, api.ErrZero
		}
		return numberOf(quotient)
	}
	isSame := v.truth == w.truth
	return truthOf(compared(op, v.number.Compare(w.number), isSame))
}

// compared reports whether a comparison holds, of values whose numbers compare so, and whose truths are the same.
func compared(op string, order int, isSame bool) bool {
	switch op {
	case api.Less:
		return order < 0
	case api.AtMost:
		return order <= 0
	case api.More:
		return order > 0
	case api.AtLeast:
		return order >= 0
	case api.Equal:
		return order == 0 && isSame
	}
	return order != 0 || !isSame
}

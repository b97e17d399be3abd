package arrays

import (
	"cmp"
	"strconv"

	"linkwork/api"
)

// maxWhole is the greatest value of a whole expression, and it may be as much less than 0.
const maxWhole = 1000000

// valueOf returns the value of a whole expression.
func valueOf(in Names, t api.Tree) (int, api.Errno) {
	v, err := calculated(in, t)
	switch {
	case err != api.OK:
		return 0, err
	case v < -maxWhole || v > maxWhole:
		return 0, api.ErrSize
	}
	return int(v), api.OK
}

// calculated returns the value of a whole expression, however large that is, if no part of it is too large.
func calculated(in Names, t api.Tree) (int64, api.Errno) {
	switch t.Op {
	case api.Num:
		v, err := strconv.ParseInt(t.Text, 10, 64)
		if err != nil {
			return 0, api.ErrType // it is a fraction: an integer has at most 15 digits
		}
		return v, api.OK
	case opRef:
		if v, ok := wholeOf(in, t); ok {
			return int64(v), api.OK
		}
	case api.Neg, api.Add, api.Sub, api.Mul, api.Div:
		values, err := valuesOf(in, t.Kids)
		if err != api.OK {
			return 0, err
		}
		return operated(t.Op, values)
	case opSize:
		return sizeOf(in, t)
	case api.If:
		yes, err := truthOf(in, t.Kids[0])
		if err != api.OK {
			return 0, err
		}
		needed := t.Kids[2]
		if yes {
			needed = t.Kids[1]
		}
		v, err := valueOf(in, needed)
		return int64(v), err
	}
	return 0, api.ErrType
}

func valuesOf(in Names, list []api.Tree) ([]int64, api.Errno) {
	var values []int64
	for _, t := range list {
		v, err := valueOf(in, t)
		if err != api.OK {
			return nil, err
		}
		values = append(values, int64(v))
	}
	return values, api.OK
}

// operated returns what an operator makes of the values of its kids.
func operated(op string, values []int64) (int64, api.Errno) {
	a, b := values[0], values[len(values)-1]
	switch op {
	case api.Neg:
		return -a, api.OK
	case api.Add:
		return a + b, api.OK
	case api.Sub:
		return a - b, api.OK
	case api.Mul:
		return a * b, api.OK
	}
	switch {
	case b == 0:
		return 0, api.ErrZero
	case a%b != 0:
		return 0, api.ErrArg
	}
	return a / b, api.OK
}

// wholeOf returns the whole number that a ref is, where it may be one; false if it is none.
func wholeOf(in Names, t api.Tree) (int, bool) {
	if t.Op != opRef || len(t.Kids) > 1 || len(t.Kids[0].Kids) > 0 {
		return 0, false
	}
	return in.Whole(t.Kids[0].Text)
}

// sizeOf returns the number of elements that a size asks for.
func sizeOf(in Names, t api.Tree) (int64, api.Errno) {
	d, err := pathShape(in, t.Kids[0])
	if err != api.OK {
		return 0, err
	}
	k, err := valueOf(in, t.Kids[1])
	switch {
	case err != api.OK:
		return 0, err
	case k < 1 || k > d.count():
		return 0, api.ErrArg
	}
	return int64(d[k-1]), api.OK
}

// truthOf returns the value of a truth of whole expressions.
func truthOf(in Names, t api.Tree) (bool, api.Errno) {
	switch t.Op {
	case api.True, api.False:
		return t.Op == api.True, api.OK
	case api.Less, api.AtMost, api.More, api.AtLeast, api.Equal, api.Unequal:
		values, err := valuesOf(in, t.Kids)
		if err != api.OK {
			return false, err
		}
		return compared(t.Op, cmp.Compare(values[0], values[1])), api.OK
	case api.And, api.Or, api.Not:
		return joined(in, t)
	}
	return false, api.ErrType
}

// compared reports whether a comparison holds, of two numbers that compare so.
func compared(op string, order int) bool {
	switch op {
	case api.Less:
		return order < 0
	case api.AtMost:
		return order <= 0
	case api.More:
		return order > 0
	case api.AtLeast:
		return order >= 0
	case api.Equal:
		return order == 0
	}
	return order != 0
}

// joined returns the value of an and, or, or not. All kids are asked for, since only an if has some that are not needed.
func joined(in Names, t api.Tree) (bool, api.Errno) {
	var truths []bool
	for _, kid := range t.Kids {
		truth, err := truthOf(in, kid)
		if err != api.OK {
			return false, err
		}
		truths = append(truths, truth)
	}
	switch t.Op {
	case api.And:
		return truths[0] && truths[1], api.OK
	case api.Or:
		return truths[0] || truths[1], api.OK
	}
	return !truths[0], api.OK
}

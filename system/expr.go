package system

import (
	"iter"

	"linkwork/api"
	"linkwork/rat"
	"linkwork/spelling"
)

// sizeOf returns how many expressions there are in one; false if it is too large, which is found without going
// through all of it, since kids may be shared, or lead back to where they came from.
func sizeOf(e api.Expr) (int, bool) {
	size := 0
	var fits func(e api.Expr, level int) bool
	fits = func(e api.Expr, level int) bool {
		size++
		if level > api.MaxDepth || size > api.MaxTree {
			return false
		}
		for _, kid := range e.Kids {
			if !fits(kid, level+1) {
				return false
			}
		}
		return true
	}
	ok := fits(e, 1)
	return size, ok
}

// oversized reports whether a system is larger than one of its limits.
func oversized(s api.System) bool {
	if len(s.Vars) > api.MaxVars || len(s.Eqs) > api.MaxEqs || len(s.Inits) > api.MaxEqs || len(s.Whens) > api.MaxEqs {
		return true
	}
	for _, w := range s.Whens {
		if len(w.Acts) > api.MaxActs {
			return true
		}
	}
	nodes := 0
	for e := range expressions(s) {
		size, ok := sizeOf(e)
		nodes += size
		if !ok || nodes > api.MaxNodes {
			return true
		}
	}
	return false
}

// expressions goes through the expressions that a system consists of.
func expressions(s api.System) iter.Seq[api.Expr] {
	return func(yield func(e api.Expr) bool) {
		for _, list := range [][]api.Eq{s.Eqs, s.Inits} {
			for _, q := range list {
				if !yield(q.Left) || !yield(q.Right) {
					return
				}
			}
		}
		for _, w := range s.Whens {
			if !yield(w.Cond) {
				return
			}
			for _, a := range w.Acts {
				if !yield(a.Value) {
					return
				}
			}
		}
	}
}

// wellBuilt reports whether an expression that is not too large is well built.
func wellBuilt(e api.Expr, ops map[string]operator) bool {
	op, ok := ops[e.Op]
	if !ok || len(e.Kids) != len(op.takes) || !op.fitsText(e.Text) || !fitsOrder(e) {
		return false
	}
	for _, kid := range e.Kids {
		if !wellBuilt(kid, ops) {
			return false
		}
	}
	return e.Op != api.Sample || isSample(e)
}

func (op operator) fitsText(text string) bool {
	switch op.text {
	case numberText:
		return rat.Is(text)
	case nameText:
		return spelling.IsName(text)
	}
	return text == ""
}

func fitsOrder(e api.Expr) bool {
	return e.Order == 0 || e.Op == api.Ref && e.Order > 0 && e.Order <= api.MaxOrder
}

// isSample reports whether the kids of a sample are literal numbers, the second one greater than 0.
func isSample(e api.Expr) bool {
	sign, _ := rat.Sign(e.Kids[1].Text)
	return e.Kids[0].Op == api.Num && e.Kids[1].Op == api.Num && sign > 0
}

// typeOf returns the type of an expression that is not too large; false if it is none of the system.
func (in scope) typeOf(e api.Expr) (int, bool) {
	if !wellBuilt(e, in.ops) {
		return 0, false
	}
	var typed func(e api.Expr) (int, bool)
	typed = func(e api.Expr) (int, bool) {
		op := in.ops[e.Op]
		if op.text == nameText {
			v, ok := in.vars[e.Text]
			return v.Type, ok && (e.Order == 0 || isDerivable(v))
		}
		common := anyType
		for i, kid := range e.Kids {
			found, ok := typed(kid)
			want := op.takes[i]
			if want == anyType && common == anyType {
				common = found
			}
			if want == anyType {
				want = common
			}
			if !ok || found != want {
				return 0, false
			}
		}
		if op.gives == anyType {
			return common, true
		}
		return op.gives, true
	}
	return typed(e)
}

package system

import (
	"linkwork/api"
	"linkwork/exact"
)

// value is a number or a truth; what it is not is 0 or false.
type value struct {
	number exact.Number
	truth  bool
}

// instant is what an expression of a system is evaluated at.
type instant struct {
	vars map[string]api.Var
	env  api.Env
	time exact.Number
}

// evaluator returns the function that evaluates expressions of a system in a valid environment.
func (in scope) evaluator(env api.Env) func(e api.Expr) (value, api.Errno) {
	time, _ := exact.Read(env.Time)
	at := instant{in.vars, env, time}
	var evaluate func(e api.Expr) (value, api.Errno)
	evaluate = func(e api.Expr) (value, api.Errno) {
		op := in.ops[e.Op]
		if op.choose != nil {
			first, err := evaluate(e.Kids[0])
			if err != api.OK {
				return value{}, err
			}
			if i := op.choose(first.truth); i > 0 {
				return evaluate(e.Kids[i])
			}
			return first, api.OK
		}
		kids := make([]value, len(e.Kids))
		for i, kid := range e.Kids {
			v, err := evaluate(kid)
			if err != api.OK {
				return value{}, err
			}
			kids[i] = v
		}
		return op.apply(at, e, kids)
	}
	return evaluate
}

// differences returns the Left sides of all equations less their Right ones, before their digits are counted.
func differences(s api.System, env api.Env) ([]exact.Number, api.Errno) {
	in, err := checked(s)
	if err != api.OK {
		return nil, err
	}
	if err := checkEnv(env); err != api.OK {
		return nil, err
	}
	evaluate := in.evaluator(env)
	list := make([]exact.Number, len(s.Eqs))
	for i, q := range s.Eqs {
		left, err := evaluate(q.Left)
		if err != api.OK {
			return nil, err
		}
		right, err := evaluate(q.Right)
		if err != api.OK {
			return nil, err
		}
		list[i] = left.number.Minus(right.number)
	}
	return list, api.OK
}

func truthOf(b bool) (value, api.Errno) {
	return value{truth: b}, api.OK
}

func numberOf(a exact.Number) (value, api.Errno) {
	return value{number: a}, api.OK
}

func literal(at instant, e api.Expr, kids []value) (value, api.Errno) {
	a, _ := exact.Read(e.Text)
	return numberOf(a)
}

func constant(b bool) func(at instant, e api.Expr, kids []value) (value, api.Errno) {
	return func(at instant, e api.Expr, kids []value) (value, api.Errno) {
		return truthOf(b)
	}
}

// bound returns the value of a use.
func bound(at instant, e api.Expr, kids []value) (value, api.Errno) {
	i, found := findUse(at.env.Binds, useOf(e))
	if !found {
		return value{}, api.ErrNone
	}
	text := at.env.Binds[i].Value
	if isTruth(text) != (at.vars[e.Text].Type == api.Truth) {
		return value{}, api.ErrType
	}
	if isTruth(text) {
		return truthOf(text == api.True)
	}
	a, _ := exact.Read(text)
	return numberOf(a)
}

func timeNow(at instant, e api.Expr, kids []value) (value, api.Errno) {
	return numberOf(at.time)
}

func initialNow(at instant, e api.Expr, kids []value) (value, api.Errno) {
	return truthOf(at.env.Initial)
}

// sampled reports whether the time is a whole number of steps, 0 or more, after the first one.
func sampled(at instant, e api.Expr, kids []value) (value, api.Errno) {
	steps, ok := at.time.Minus(kids[0].number).Over(kids[1].number)
	return truthOf(ok && steps.IsWhole() && steps.Sign() >= 0)
}

func negated(at instant, e api.Expr, kids []value) (value, api.Errno) {
	return numberOf(kids[0].number.Negated())
}

func calculated(by func(a, b exact.Number) exact.Number) func(at instant, e api.Expr, kids []value) (value, api.Errno) {
	return func(at instant, e api.Expr, kids []value) (value, api.Errno) {
		return numberOf(by(kids[0].number, kids[1].number))
	}
}

func divided(at instant, e api.Expr, kids []value) (value, api.Errno) {
	quotient, ok := kids[0].number.Over(kids[1].number)
	if !ok {
		return value{}, api.ErrZero
	}
	return numberOf(quotient)
}

// compared reports whether the order of two numbers is one that is asked for.
func compared(asked func(order int) bool) func(at instant, e api.Expr, kids []value) (value, api.Errno) {
	return func(at instant, e api.Expr, kids []value) (value, api.Errno) {
		return truthOf(asked(kids[0].number.Compare(kids[1].number)))
	}
}

// sameness reports whether it is as it is asked for that two values are the same.
func sameness(asked bool) func(at instant, e api.Expr, kids []value) (value, api.Errno) {
	return func(at instant, e api.Expr, kids []value) (value, api.Errno) {
		same := kids[0].truth == kids[1].truth && kids[0].number.Compare(kids[1].number) == 0
		return truthOf(same == asked)
	}
}

func opposite(at instant, e api.Expr, kids []value) (value, api.Errno) {
	return truthOf(!kids[0].truth)
}

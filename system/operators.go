package system

import (
	"linkwork/api"
	"linkwork/exact"
)

// What an expression's Text is.
const (
	noText = iota
	numberText
	nameText
)

// anyType is that of a kid that may be a number or a truth. All such kids of an expression have the same type.
const anyType = -1

// operator is what is known of an Op.
type operator struct {
	text  int
	takes []int // the types of its kids
	gives int   // its type, which is anyType where it is that of such kids, or of the variable that it names

	// One of these: the index of the kid whose value it has, found from the value of the first one,
	// or what its value is, found from those of all kids.
	choose func(first bool) int
	apply  func(at instant, e api.Expr, kids []value) (value, api.Errno)
}

// operators returns all operators by their Ops.
func operators() map[string]operator {
	two := []int{api.Number, api.Number}
	both := []int{anyType, anyType}
	truths := []int{api.Truth, api.Truth}
	branches := []int{api.Truth, anyType, anyType}
	return map[string]operator{
		api.Num:     {text: numberText, gives: api.Number, apply: literal},
		api.True:    {gives: api.Truth, apply: constant(true)},
		api.False:   {gives: api.Truth, apply: constant(false)},
		api.Ref:     {text: nameText, gives: anyType, apply: bound},
		api.Pre:     {text: nameText, gives: anyType, apply: bound},
		api.Time:    {gives: api.Number, apply: timeNow},
		api.Initial: {gives: api.Truth, apply: initialNow},
		api.Sample:  {takes: two, gives: api.Truth, apply: sampled},
		api.Neg:     {takes: two[:1], gives: api.Number, apply: negated},
		api.Add:     {takes: two, gives: api.Number, apply: calculated(exact.Number.Plus)},
		api.Sub:     {takes: two, gives: api.Number, apply: calculated(exact.Number.Minus)},
		api.Mul:     {takes: two, gives: api.Number, apply: calculated(exact.Number.Times)},
		api.Div:     {takes: two, gives: api.Number, apply: divided},
		api.If:      {takes: branches, gives: anyType, choose: kidAfter(1, 2)},
		api.Less:    {takes: two, gives: api.Truth, apply: compared(func(order int) bool { return order < 0 })},
		api.AtMost:  {takes: two, gives: api.Truth, apply: compared(func(order int) bool { return order <= 0 })},
		api.More:    {takes: two, gives: api.Truth, apply: compared(func(order int) bool { return order > 0 })},
		api.AtLeast: {takes: two, gives: api.Truth, apply: compared(func(order int) bool { return order >= 0 })},
		api.Equal:   {takes: both, gives: api.Truth, apply: sameness(true)},
		api.Unequal: {takes: both, gives: api.Truth, apply: sameness(false)},
		api.And:     {takes: truths, gives: api.Truth, choose: kidAfter(1, 0)},
		api.Or:      {takes: truths, gives: api.Truth, choose: kidAfter(0, 1)},
		api.Not:     {takes: truths[:1], gives: api.Truth, apply: opposite},
	}
}

// kidAfter chooses a kid by whether the first one is true.
func kidAfter(ifTrue, ifFalse int) func(first bool) int {
	return func(first bool) int {
		if first {
			return ifTrue
		}
		return ifFalse
	}
}

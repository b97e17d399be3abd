// Package rat is layer 1: rational numbers of any length, as strings (see shared/doc/01-rat.md).
package rat

import "linkwork/api"

// maxPower is the greatest exponent of Pow.
const maxPower = 100

// Is reports whether it is a number.
func Is(a string) bool {
	_, ok := read(a)
	return ok
}

// Make returns a quotient of ints.
func Make(num, den int) (string, api.Errno) {
	if den == 0 {
		return "", api.ErrZero
	}
	return write(fromInt(num).times(fromInt(den).inverse()))
}

// Parts returns the numerator and the denominator.
func Parts(a string) (string, string, api.Errno) {
	l, e := parse(a)
	if e != api.OK {
		return "", "", e
	}
	num := integer(l[0].below, l[0].num)
	den := integer(false, l[0].den)
	return num.text(), den.text(), api.OK
}

// Add returns the sum.
func Add(a, b string) (string, api.Errno) {
	return calculate(number.plus, a, b)
}

// Sub returns the difference.
func Sub(a, b string) (string, api.Errno) {
	return calculate(number.minus, a, b)
}

// Mul returns the product.
func Mul(a, b string) (string, api.Errno) {
	return calculate(number.times, a, b)
}

// Div returns the quotient.
func Div(a, b string) (string, api.Errno) {
	l, e := parse(a, b)
	if e != api.OK {
		return "", e
	}
	if l[1].sign() == 0 {
		return "", api.ErrZero
	}
	return write(l[0].times(l[1].inverse()))
}

// Cmp compares two numbers.
func Cmp(a, b string) (int, api.Errno) {
	l, e := parse(a, b)
	if e != api.OK {
		return 0, e
	}
	return l[0].compare(l[1]), api.OK
}

// Sign compares a number with 0.
func Sign(a string) (int, api.Errno) {
	l, e := parse(a)
	if e != api.OK {
		return 0, e
	}
	return l[0].sign(), api.OK
}

// Sum returns the sum of numbers.
func Sum(l []string) (string, api.Errno) {
	terms, e := parse(l...)
	if e != api.OK {
		return "", e
	}
	return write(total(terms))
}

// Dot returns the sum of products.
func Dot(a, b []string) (string, api.Errno) {
	left, e := parse(a...)
	if e != api.OK {
		return "", e
	}
	right, e := parse(b...)
	if e != api.OK {
		return "", e
	}
	if len(left) != len(right) {
		return "", api.ErrArg
	}
	for i := range left {
		left[i] = left[i].times(right[i])
	}
	return write(total(left))
}

// Floor returns the greatest integer that is not greater.
func Floor(a string) (string, api.Errno) {
	return change(number.floor, a)
}

// Round returns the nearest integer, of two the even one.
func Round(a string) (string, api.Errno) {
	return change(number.round, a)
}

// Pow returns a power.
func Pow(a string, n int) (string, api.Errno) {
	l, e := parse(a)
	if e != api.OK {
		return "", e
	}
	if n < -maxPower || n > maxPower {
		return "", api.ErrArg
	}
	if n < 0 && l[0].sign() == 0 {
		return "", api.ErrZero
	}
	return write(l[0].power(n))
}

// Multiple reports whether a number is an integer, 0 or more, times a step.
func Multiple(a, step string) (bool, api.Errno) {
	l, e := parse(a, step)
	if e != api.OK {
		return false, e
	}
	if l[1].sign() <= 0 {
		return false, api.ErrArg
	}
	count := l[0].times(l[1].inverse())
	return !count.below && count.den.isOne(), api.OK
}

// Simplest returns the number with the least denominator from a to b, of several the one nearest to 0.
func Simplest(a, b string) (string, api.Errno) {
	l, e := parse(a, b)
	if e != api.OK {
		return "", e
	}
	if l[0].compare(l[1]) > 0 {
		return "", api.ErrArg
	}
	return write(simplest(l[0], l[1]))
}

// Common returns the greatest number of which all are multiples.
func Common(l []string) (string, api.Errno) {
	all, e := parse(l...)
	if e != api.OK {
		return "", e
	}
	if len(all) == 0 {
		return "", api.ErrNone
	}
	for _, a := range all {
		if a.sign() <= 0 {
			return "", api.ErrArg
		}
	}
	common := all[0]
	for _, a := range all[1:] {
		common = number{false, divisor(common.num, a.num), multiple(common.den, a.den)}
		// A denominator only grows here: one that is too long already stays so.
		if !common.fits() {
			return "", api.ErrSize
		}
	}
	return write(common)
}

// parse returns the numbers that texts are; ErrForm unless all are numbers.
func parse(texts ...string) ([]number, api.Errno) {
	l := make([]number, len(texts))
	for i, text := range texts {
		a, ok := read(text)
		if !ok {
			return nil, api.ErrForm
		}
		l[i] = a
	}
	return l, api.OK
}

// write returns the text of a result; ErrSize if it has too many digits.
func write(a number) (string, api.Errno) {
	if !a.fits() {
		return "", api.ErrSize
	}
	return a.text(), api.OK
}

// calculate does a calculation with two numbers.
func calculate(by func(a, b number) number, a, b string) (string, api.Errno) {
	l, e := parse(a, b)
	if e != api.OK {
		return "", e
	}
	return write(by(l[0], l[1]))
}

// change does a calculation with one number.
func change(by func(a number) number, a string) (string, api.Errno) {
	l, e := parse(a)
	if e != api.OK {
		return "", e
	}
	return write(by(l[0]))
}

// total returns the sum of numbers.
func total(l []number) number {
	sum := integer(false, nil)
	for _, a := range l {
		sum = sum.plus(a)
	}
	return sum
}

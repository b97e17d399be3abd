// Package exact has the numbers that arise within a call: rational numbers of any length.
// The functions of package rat refuse results of more than MaxDigits digits, while a call refuses only what it
// returns itself (R7), and package rat uses no other package; so the layers above it calculate with these numbers.
package exact

import (
	"cmp"

	"linkwork/api"
	"linkwork/rat"
)

// Number is a rational number in lowest terms. It is never changed; the zero value is 0.
type Number struct {
	below bool  // less than 0
	num   whole // the numerator without its sign
	under whole // the denominator, or nothing for 1
}

// Read returns the number that a text is, if it is one.
func Read(text string) (Number, bool) {
	num, den, e := rat.Parts(text)
	if e != api.OK {
		return Number{}, false
	}
	below := num[0] == '-'
	if below {
		num = num[1:]
	}
	return inLowestTerms(below, fromDigits(num), fromDigits(den)), true
}

// Text returns the text of a number; ErrSize if it has too many digits.
func (a Number) Text() (string, api.Errno) {
	if !a.MayHave(api.MaxDigits) {
		return "", api.ErrSize
	}
	num, den := a.num.digits(), a.den().digits()
	if len(num) > api.MaxDigits || len(den) > api.MaxDigits {
		return "", api.ErrSize
	}
	if a.below {
		num = "-" + num
	}
	if a.IsWhole() {
		return num, api.OK
	}
	return num + "/" + den, api.OK
}

// MayHave is false only if its numerator or its denominator has more than that many digits.
func (a Number) MayHave(digits int) bool {
	return a.num.mayHave(digits) && a.under.mayHave(digits)
}

// Plus returns the sum. Only a common divisor of the denominators can be left in its terms, so that no divisors of
// the longer numbers in between are looked for.
func (a Number) Plus(b Number) Number {
	common := divisor(a.den(), b.den())
	left, right := a.num.times(b.den().part(common)), b.num.times(a.den().part(common))
	below, num := sum(a.below, left, b.below, right)
	if num.isZero() {
		return Number{}
	}
	rest := divisor(num, common)
	return inLowestTerms(below, num.part(rest), a.den().part(common).times(b.den().part(rest)))
}

// sum adds whole numbers, each of which is given with its sign, and returns it likewise.
func sum(aBelow bool, a whole, bBelow bool, b whole) (bool, whole) {
	if aBelow == bBelow {
		return aBelow, a.plus(b)
	}
	if a.compare(b) < 0 {
		return bBelow, b.minus(a)
	}
	return aBelow, a.minus(b)
}

// Minus returns the difference.
func (a Number) Minus(b Number) Number {
	return a.Plus(b.Negated())
}

// Times returns the product. Numerators and denominators are crossed, and reduced before they get long.
func (a Number) Times(b Number) Number {
	first, second := divisor(a.num, b.den()), divisor(b.num, a.den())
	num := a.num.part(first).times(b.num.part(second))
	den := a.den().part(second).times(b.den().part(first))
	return inLowestTerms(a.below != b.below, num, den)
}

// Over returns the quotient; false if it is divided by 0.
func (a Number) Over(b Number) (Number, bool) {
	if b.Sign() == 0 {
		return Number{}, false
	}
	return a.Times(inLowestTerms(b.below, b.den(), b.num)), true
}

// Part returns the quotient of two integers, whose result is one, too; b is not 0. No common divisor is looked for.
func (a Number) Part(b Number) Number {
	return inLowestTerms(a.below != b.below, a.num.part(b.num), nil)
}

// Negated returns the number with the other sign.
func (a Number) Negated() Number {
	return Number{!a.below && !a.num.isZero(), a.num, a.under}
}

// Sign returns -1, 0 or 1, as it is less than, equal to, or greater than 0.
func (a Number) Sign() int {
	if a.below {
		return -1
	}
	if a.num.isZero() {
		return 0
	}
	return 1
}

// Compare returns -1, 0 or 1, as a is less than, equal to, or greater than b.
func (a Number) Compare(b Number) int {
	if order := cmp.Compare(a.Sign(), b.Sign()); order != 0 {
		return order
	}
	order := a.num.times(b.den()).compare(b.num.times(a.den()))
	if a.below {
		return -order
	}
	return order
}

// IsWhole reports whether it is an integer.
func (a Number) IsWhole() bool {
	return a.under.isZero()
}

func (a Number) den() whole {
	if a.IsWhole() {
		return whole{1}
	}
	return a.under
}

// inLowestTerms returns a quotient of numbers without a common divisor; den is not 0.
func inLowestTerms(below bool, num, den whole) Number {
	if den.isOne() {
		den = nil
	}
	return Number{below && !num.isZero(), num, den}
}

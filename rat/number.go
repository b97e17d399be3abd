package rat

import "linkwork/api"

const maxDigits = api.MaxDigits

// number is a rational number in lowest terms: den is not 0, and 0 is not below 0.
type number struct {
	below    bool
	num, den words
}

// integer returns a whole number, or the negative of one.
func integer(below bool, size words) number {
	return number{below && !size.isZero(), size, one()}
}

// fraction returns a quotient, in lowest terms; den is not 0.
func fraction(below bool, num, den words) number {
	common := divisor(num, den)
	num, _ = num.over(common)
	den, _ = den.over(common)
	return number{below && !num.isZero(), num, den}
}

// fromInt returns a machine's integer.
func fromInt(n int) number {
	if n < 0 {
		return integer(true, fromUint(-uint64(n)))
	}
	return integer(false, fromUint(uint64(n)))
}

// read returns the number that a text is, if it is one.
func read(text string) (number, bool) {
	below := len(text) > 0 && text[0] == '-'
	if below {
		text = text[1:]
	}
	slash := 0
	for slash < len(text) && text[slash] != '/' {
		slash++
	}
	num, ok := fromDigits(text[:slash])
	if !ok || below && num.isZero() {
		return number{}, false
	}
	if slash == len(text) {
		return integer(below, num), true
	}
	den, ok := fromDigits(text[slash+1:])
	if !ok || den.isZero() || den.isOne() || !divisor(num, den).isOne() {
		return number{}, false
	}
	return number{below, num, den}, true
}

// text writes it.
func (a number) text() string {
	var text []byte
	if a.below {
		text = append(text, '-')
	}
	text = a.num.appendTo(text)
	if !a.den.isOne() {
		text = append(text, '/')
		text = a.den.appendTo(text)
	}
	return string(text)
}

func (a number) fits() bool {
	return a.num.digits() <= maxDigits && a.den.digits() <= maxDigits
}

func (a number) sign() int {
	if a.below {
		return -1
	}
	if a.num.isZero() {
		return 0
	}
	return 1
}

func (a number) negated() number {
	return number{!a.below && !a.num.isZero(), a.num, a.den}
}

// plus adds; only the common divisor of the denominators can be left in the sum's terms,
// so that divisors of long numbers need not be found.
func (a number) plus(b number) number {
	common := divisor(a.den, b.den)
	left, _ := a.den.over(common)
	right, _ := b.den.over(common)
	sum := plusSigned(integer(a.below, a.num.times(right)), integer(b.below, b.num.times(left)))
	if sum.num.isZero() {
		return sum
	}
	rest := fraction(sum.below, sum.num, common)
	return number{rest.below, rest.num, rest.den.times(left).times(right)}
}

// plusSigned adds two integers.
func plusSigned(a, b number) number {
	if a.below == b.below {
		return integer(a.below, a.num.plus(b.num))
	}
	if a.num.compare(b.num) < 0 {
		a, b = b, a
	}
	return integer(a.below, a.num.minus(b.num))
}

func (a number) minus(b number) number {
	return a.plus(b.negated())
}

// times multiplies; the terms of the factors are crossed and reduced first, while they are short.
func (a number) times(b number) number {
	first := fraction(a.below, a.num, b.den)
	second := fraction(b.below, b.num, a.den)
	num := first.num.times(second.num)
	den := first.den.times(second.den)
	return number{first.below != second.below && !num.isZero(), num, den}
}

// inverse returns 1 divided by it; it is not 0.
func (a number) inverse() number {
	return number{a.below, a.den, a.num}
}

func (a number) compare(b number) int {
	left := integer(a.below, a.num.times(b.den))
	right := integer(!b.below, b.num.times(a.den))
	return plusSigned(left, right).sign()
}

// floor returns the greatest integer that is not greater.
func (a number) floor() number {
	size, rest := a.num.over(a.den)
	if a.below && !rest.isZero() {
		size = size.plus(one())
	}
	return integer(a.below, size)
}

// round returns the nearest integer, of two the even one.
func (a number) round() number {
	size, rest := a.num.over(a.den)
	half := rest.plus(rest).compare(a.den)
	if half > 0 || half == 0 && size.isOdd() {
		size = size.plus(one())
	}
	return integer(a.below, size)
}

// power returns a power; it is not 0 if n is less than 0.
func (a number) power(n int) number {
	if n < 0 {
		a, n = a.inverse(), -n
	}
	return number{a.below && n%2 == 1, a.num.power(n), a.den.power(n)}
}

// simplest returns the number with the least denominator from a to b, which is not less than a;
// of several the one nearest to 0.
func simplest(a, b number) number {
	if a.below && b.below {
		return simplest(b.negated(), a.negated()).negated()
	}
	if a.sign() <= 0 {
		return integer(false, nil)
	}
	num, den := simplestAbove(a.num, a.den, b.num, b.den)
	return number{false, num, den}
}

// simplestAbove returns the terms of the number that simplest asks for, for 0 < a/b <= c/d.
// Where there is no integer, all numbers have the same whole part, and what is behind it is 1
// divided by the simplest of what is there upside down.
func simplestAbove(a, b, c, d words) (words, words) {
	whole, rest := a.over(b)
	if rest.isZero() {
		return whole, one()
	}
	next := whole.plus(one())
	if next.times(d).compare(c) <= 0 {
		return next, one()
	}
	num, den := simplestAbove(d, c.minus(whole.times(d)), b, rest)
	return whole.times(num).plus(den), num
}

// multiple returns the least common multiple; neither is 0.
func multiple(a, b words) words {
	rest, _ := b.over(divisor(a, b))
	return a.times(rest)
}

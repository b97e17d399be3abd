package exact

import "math/bits"

// divisor returns the greatest common divisor of two numbers that are not both 0: the lesser one of two odd
// numbers is taken from the other one, which is halved until it is odd again, as long as they differ.
func divisor(a, b whole) whole {
	if a.isZero() || b.isOne() {
		return b
	}
	if b.isZero() || a.isOne() {
		return a
	}
	shared := min(a.twos(), b.twos())
	a, b = a.odd(), b.odd()
	for {
		order := a.compare(b)
		if order == 0 {
			return a.doubled(shared)
		}
		if order < 0 {
			a, b = b, a
		}
		a.take(b)
		a = a.trimmed()
		a = a.halve(a.twos())
	}
}

// part returns the quotient by a divisor. Its words are found from the lowest one on: each one is that which, times
// the divisor, takes the lowest word away that is left. (What is above the quotient's words need not be looked at.)
func (a whole) part(b whole) whole {
	if b.isOne() || a.isZero() {
		return a
	}
	rest := a.copied().halve(b.twos())
	b = b.odd()
	inverse := inverseOf(b[0])
	quotient := rest[:len(rest)-len(b)+1]
	for i := range quotient {
		quotient[i] *= inverse
		takeTimes(quotient[i+1:], b, quotient[i])
	}
	return quotient.trimmed()
}

// takeTimes takes what is above the lowest word of b*x from a, as far as it has words for it.
func takeTimes(a, b whole, x uint64) {
	carry, _ := bits.Mul64(b[0], x)
	borrow := uint64(0)
	for i, word := range a {
		low := uint64(0)
		carry, low = timesPlus(b.word(i+1), x, carry, 0)
		a[i], borrow = bits.Sub64(word, low, borrow)
	}
}

// inverseOf returns the word that times an odd one is 1, if words above the lowest one are left out. The first guess
// is right in its three lowest bits, each further one in twice as many.
func inverseOf(word uint64) uint64 {
	inverse := word
	for range 5 {
		inverse *= 2 - word*inverse
	}
	return inverse
}

// twos returns how often it, which is not 0, can be halved.
func (a whole) twos() int {
	zeros := 0
	for a[zeros] == 0 {
		zeros++
	}
	return zeros*64 + bits.TrailingZeros64(a[zeros])
}

// odd returns a copy that is halved as often as possible.
func (a whole) odd() whole {
	return a.copied().halve(a.twos())
}

// halve halves it that often, which leaves no rest. It changes the words.
func (a whole) halve(times int) whole {
	skipped, shift := times/64, times%64
	for i := skipped; i < len(a); i++ {
		a[i-skipped] = a[i]>>shift | a.word(i+1)<<(64-shift)
	}
	return a[:len(a)-skipped].trimmed()
}

// doubled returns it doubled that often.
func (a whole) doubled(times int) whole {
	skipped, shift := times/64, times%64
	double := make(whole, len(a)+skipped+1)
	for i := range len(a) + 1 {
		below := uint64(0)
		if i > 0 {
			below = a[i-1] >> (64 - shift)
		}
		double[i+skipped] = a.word(i)<<shift | below
	}
	return double.trimmed()
}

package rat

// divisor returns the greatest common divisor of two numbers that are not both 0 (Lehmer's way:
// many of Euclid's steps are found from the highest words alone, and then done at once).
func divisor(a, b words) words {
	if a.isOne() || b.isOne() {
		return one()
	}
	if a.compare(b) < 0 {
		a, b = b, a
	}
	for len(b) > 2 {
		steps := commonSteps(top(a, len(a)), top(b, len(a)))
		if steps.b == 0 {
			_, rest := a.over(b)
			a, b = b, rest
			continue
		}
		a, b = combined(a, b, steps.a, steps.b), combined(a, b, steps.c, steps.d)
	}
	if b.isZero() {
		return a
	}
	_, rest := a.over(b)
	return fromUint(smallDivisor(toUint(b), toUint(rest)))
}

// smallDivisor is Euclid's algorithm on machine numbers.
func smallDivisor(a, b uint64) uint64 {
	for b > 0 {
		a, b = b, a%b
	}
	return a
}

// toUint returns the value of at most two words.
func toUint(w words) uint64 {
	value := uint64(0)
	for _, word := range w.down() {
		value = value*base + uint64(word)
	}
	return value
}

// top returns the value of the two highest of n words; those that the number does not have are 0.
func top(w words, n int) int64 {
	value := int64(0)
	for at := n - 1; at >= n-2; at-- {
		value *= base
		if at < len(w) {
			value += int64(w[at])
		}
	}
	return value
}

// stepFactors are the numbers of which several steps of Euclid's algorithm consist:
// they lead from x and y to a*x + b*y and c*x + d*y.
// From x and y below base*base come factors below 3*base, which combined can work with in an int64.
type stepFactors struct {
	a, b, c, d int64
}

// commonSteps returns the steps that are the same for all numbers that begin with x and y:
// those whose quotient is the same for the least and the greatest of these numbers.
func commonSteps(x, y int64) stepFactors {
	s := stepFactors{a: 1, d: 1}
	for y+s.c != 0 && y+s.d != 0 {
		quotient := (x + s.a) / (y + s.c)
		if quotient != (x+s.b)/(y+s.d) {
			break
		}
		s = stepFactors{s.c, s.d, s.a - quotient*s.c, s.b - quotient*s.d}
		x, y = y, x-quotient*y
	}
	return s
}

// combined returns f*a + g*b, which is 0 or more and not greater than a, which is not less than b.
func combined(a, b words, f, g int64) words {
	sum := make(words, len(a))
	carry := int64(0)
	for at, word := range a {
		part := f*int64(word) + carry
		if at < len(b) {
			part += g * int64(b[at])
		}
		carry = part / base
		part %= base
		if part < 0 {
			part += base
			carry--
		}
		sum[at] = uint32(part)
	}
	return sum.trimmed()
}

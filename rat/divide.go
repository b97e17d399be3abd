package rat

// over returns the quotient, rounded down, and the rest; b is not 0.
func (a words) over(b words) (words, words) {
	if b.isOne() {
		return a, nil
	}
	if a.compare(b) < 0 {
		return nil, a
	}
	if len(b) == 1 {
		quotient, rest := a.overWord(b[0])
		return quotient, fromUint(uint64(rest))
	}
	// Both are scaled, so that the divisor's highest word is base/2 or more, as the guesses of divideLong need.
	scale := base / (b[len(b)-1] + 1)
	quotient, rest := divideLong(a.times(words{scale}), b.times(words{scale}))
	rest, _ = rest.overWord(scale)
	return quotient, rest
}

// overWord returns the quotient by a single word, rounded down, and the rest.
func (a words) overWord(b uint32) (words, uint32) {
	quotient := make(words, len(a))
	rest := uint64(0)
	for at, word := range a.down() {
		part := rest*base + uint64(word)
		quotient[at] = uint32(part / uint64(b))
		rest = part % uint64(b)
	}
	return quotient.trimmed(), uint32(rest)
}

// divideLong is long division by two or more words, the highest one base/2 or more.
func divideLong(a, b words) (words, words) {
	rest := make(words, len(a)+1)
	copy(rest, a)
	quotient := make(words, len(a)-len(b)+1)
	for at := range quotient.down() {
		part := rest[at : at+len(b)+1]
		word := guess(part, b)
		if subtractTimes(part, b, word) {
			addBack(part, b)
			word--
		}
		quotient[at] = word
	}
	return quotient.trimmed(), rest.trimmed()
}

// guess returns the quotient of part, which has one word more than b, by b, or one more than that.
func guess(part, b words) uint32 {
	n := len(b)
	top := uint64(part[n])*base + uint64(part[n-1])
	high, low := uint64(b[n-1]), uint64(b[n-2])
	word, rest := top/high, top%high
	for word >= base || rest < base && word*low > rest*base+uint64(part[n-2]) {
		word--
		rest += high
	}
	return uint32(word)
}

// subtractTimes subtracts factor times b from part. It reports whether that was too much, so that
// it had to borrow a 1 from before the highest word.
func subtractTimes(part, b words, factor uint32) bool {
	carry := uint64(0)
	for at := range part {
		less := carry
		if at < len(b) {
			less += uint64(factor) * uint64(b[at])
		}
		carry = less / base
		digit := uint32(less % base)
		if part[at] < digit {
			part[at] += base
			carry++
		}
		part[at] -= digit
	}
	return carry > 0
}

// addBack adds b to part, and gives back the 1 that subtractTimes has borrowed.
func addBack(part, b words) {
	carry := uint32(0)
	for at := range part {
		sum := part[at] + carry
		if at < len(b) {
			sum += b[at]
		}
		carry = sum / base
		part[at] = sum % base
	}
}

package lex

import (
	"math/bits"
	"strconv"
	"strings"
)

// wordUnit is the unit of the words of 15 digits that numbers of up to 30 digits are divided into.
const wordUnit uint64 = 1_000_000_000_000_000

// decimal is a text of 1 to 15 digits, and perhaps a point and 1 to 15 digits.
type decimal string

// fraction returns the number, in lowest terms, that a decimal is.
func (d decimal) fraction() string {
	left, right, _ := strings.Cut(string(d), ".")
	whole, _ := strconv.ParseUint(left, 10, 64)
	part, _ := strconv.ParseUint("0"+right, 10, 64)
	below := power(len(right))
	common := divisor(below, part)
	part /= common
	below /= common
	if below == 1 {
		return strconv.FormatUint(whole, 10)
	}
	return long(whole, below, part) + "/" + strconv.FormatUint(below, 10)
}

// power returns 10 to the given exponent, which is 0 to 15.
func power(exponent int) uint64 {
	p := uint64(1)
	for range exponent {
		p *= 10
	}
	return p
}

func divisor(a, b uint64) uint64 {
	for b != 0 {
		a, b = b, a%b
	}
	return a
}

// long returns the digits of a * b + c, which has at most 30.
func long(a, b, c uint64) string {
	high, low := bits.Mul64(a, b)
	low, carry := bits.Add64(low, c, 0)
	left, right := bits.Div64(high+carry, low, wordUnit)
	if left == 0 {
		return strconv.FormatUint(right, 10)
	}
	return strconv.FormatUint(left, 10) + padded(right, maxDigits)
}

// padded returns the digits of n, with noughts before them if they are fewer than asked for.
func padded(n uint64, digits int) string {
	text := strconv.FormatUint(n, 10)
	return strings.Repeat("0", max(0, digits-len(text))) + text
}

// decimalOf returns the shortest decimal of a fraction, or nothing if none of them has few enough digits. A text without
// a denominator is taken as an integer, which is its own decimal. (The caller reads the decimal again, to see whether
// the text was in lowest terms.)
func decimalOf(text string) string {
	above, below, isFraction := strings.Cut(text, "/")
	if !isFraction {
		return text
	}
	high, low, fits := words(above)
	unit, err := strconv.ParseUint(below, 10, 64)
	if !fits || err != nil || high >= unit {
		return ""
	}
	whole, rest := bits.Div64(high, low, unit)
	for places := range maxDigits + 1 {
		if power(places)%unit == 0 {
			return strconv.FormatUint(whole, 10) + "." + padded(rest*(power(places)/unit), places)
		}
	}
	return ""
}

// words returns a number of at most 30 digits as two words of 64 bits.
func words(digits string) (high, low uint64, ok bool) {
	if len(digits) > 2*maxDigits {
		return 0, 0, false
	}
	middle := max(0, len(digits)-maxDigits)
	left, leftErr := strconv.ParseUint("0"+digits[:middle], 10, 64)
	right, rightErr := strconv.ParseUint(digits[middle:], 10, 64)
	if leftErr != nil || rightErr != nil {
		return 0, 0, false
	}
	high, low = bits.Mul64(left, wordUnit)
	low, carry := bits.Add64(low, right, 0)
	return high + carry, low, true
}

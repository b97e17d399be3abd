package exact

import (
	"cmp"
	"math/bits"
	"strconv"
	"strings"
)

const (
	// group is the greatest power of ten that is easily kept in a word, and groupDigits its digits behind the 1.
	group       = 1_000_000_000_000_000_000
	groupDigits = 18
)

// whole is a whole number, the lowest word first, no highest word 0. It is not changed any more once another
// number, or a caller, has it, so that numbers may share it.
type whole []uint64

// fromDigits reads decimal digits.
func fromDigits(text string) whole {
	var w whole
	for len(text) > 0 {
		count := (len(text)-1)%groupDigits + 1
		part, _ := strconv.ParseUint(text[:count], 10, 64)
		w = w.times(whole{group}).plus(whole{part}.trimmed())
		text = text[count:]
	}
	return w
}

// digits writes its decimal digits.
func (a whole) digits() string {
	if a.isZero() {
		return "0"
	}
	text := ""
	rest := a.copied()
	for len(rest) > 0 {
		part := uint64(0)
		for i := len(rest) - 1; i >= 0; i-- {
			rest[i], part = bits.Div64(part, rest[i], group)
		}
		digits := strconv.FormatUint(part, 10)
		text = strings.Repeat("0", groupDigits-len(digits)) + digits + text
		rest = rest.trimmed()
	}
	return strings.TrimLeft(text, "0")
}

// mayHave is false only if it has more than that many digits, each of which needs less than 10/3 bits.
func (a whole) mayHave(digits int) bool {
	return len(a) <= digits*10/3/64+1
}

func (a whole) copied() whole {
	return append(whole(nil), a...)
}

// trimmed returns it without highest words that are 0.
func (a whole) trimmed() whole {
	for len(a) > 0 && a[len(a)-1] == 0 {
		a = a[:len(a)-1]
	}
	return a
}

func (a whole) isZero() bool {
	return len(a) == 0
}

func (a whole) isOne() bool {
	return len(a) == 1 && a[0] == 1
}

// word returns a word, which is 0 above the highest one.
func (a whole) word(at int) uint64 {
	if at < len(a) {
		return a[at]
	}
	return 0
}

// compare returns -1, 0 or 1, as a is less than, equal to, or greater than b.
func (a whole) compare(b whole) int {
	if len(a) != len(b) {
		return cmp.Compare(len(a), len(b))
	}
	for i := len(a) - 1; i >= 0; i-- {
		if a[i] != b[i] {
			return cmp.Compare(a[i], b[i])
		}
	}
	return 0
}

func (a whole) plus(b whole) whole {
	if len(a) < len(b) {
		a, b = b, a
	}
	sum := make(whole, len(a)+1)
	carry := uint64(0)
	for i, word := range a {
		sum[i], carry = bits.Add64(word, b.word(i), carry)
	}
	sum[len(a)] = carry
	return sum.trimmed()
}

// minus returns the difference; b is not greater than a.
func (a whole) minus(b whole) whole {
	difference := a.copied()
	difference.take(b)
	return difference.trimmed()
}

// take makes it less by b, which is not greater. It changes the words.
func (a whole) take(b whole) {
	borrow := uint64(0)
	for i, word := range a {
		a[i], borrow = bits.Sub64(word, b.word(i), borrow)
	}
}

func (a whole) times(b whole) whole {
	product := make(whole, len(a)+len(b))
	for i, x := range a {
		carry := uint64(0)
		for j, y := range b {
			carry, product[i+j] = timesPlus(x, y, product[i+j], carry)
		}
		product[i+len(b)] = carry
	}
	return product.trimmed()
}

// timesPlus returns the two words of x*y + a + b, the high one first.
func timesPlus(x, y, a, b uint64) (uint64, uint64) {
	high, low := bits.Mul64(x, y)
	low, carry := bits.Add64(low, a, 0)
	high += carry
	low, carry = bits.Add64(low, b, 0)
	return high + carry, low
}

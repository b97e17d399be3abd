package measure

import (
	"maps"
	"slices"
	"strings"

	"linkwork/api"
	"linkwork/exact"
	"linkwork/rat"
	"linkwork/spelling"
)

const (
	second      = "s" // the symbol of time
	maxSymbol   = 8   // letters of a symbol
	maxExponent = 9   // digits of an exponent's numerator and denominator
)

// exponents are those of a unit, by its symbols; none is 0. They may be too long for a unit that is written.
type exponents map[string]exact.Number

// number returns the number that a text is, which is one.
func number(text string) exact.Number {
	a, _ := exact.Read(text)
	return a
}

// multiply multiplies a unit by a power of another one.
func (unit exponents) multiply(by exponents, power exact.Number) {
	for symbol, exponent := range by {
		sum := unit[symbol].Plus(exponent.Times(power))
		unit[symbol] = sum
		if sum.Sign() == 0 {
			delete(unit, symbol)
		}
	}
}

// product returns the product of two units, the second one to a power; ErrForm if they are none.
func product(u, v string, power exact.Number) (string, api.Errno) {
	unit, first := read(u)
	by, last := read(v)
	if !first || !last {
		return "", api.ErrForm
	}
	unit.multiply(by, power)
	return unit.text()
}

// read returns the exponents of a unit, if it is one: of all texts that say the same, the one that would be written.
func read(u string) (exponents, bool) {
	unit := make(exponents)
	if len(u) > api.MaxName {
		return nil, false
	}
	if u == "1" {
		return unit, true
	}
	for factor := range strings.SplitSeq(u, ".") {
		symbol := symbolOf(factor)
		exponent, ok := exponentOf(factor[len(symbol):])
		if !ok || !isSymbol(symbol) {
			return nil, false
		}
		unit[symbol] = exponent
	}
	if written, ok := unit.written(); !ok || written != u {
		return nil, false
	}
	return unit, true
}

// symbolOf returns the letters that a factor begins with.
func symbolOf(factor string) string {
	end := 0
	for end < len(factor) && spelling.IsLetter(factor[end]) {
		end++
	}
	return factor[:end]
}

func isSymbol(text string) bool {
	return text != "" && len(text) <= maxSymbol && symbolOf(text) == text
}

// exponentOf returns the exponent that what is behind a symbol says; false if it says none, or 0.
func exponentOf(text string) (exact.Number, bool) {
	if text == "" {
		return number("1"), true
	}
	exponent, ok := exact.Read(strings.Trim(text, "()"))
	return exponent, ok && exponent.Sign() != 0
}

// text returns the text of a unit; ErrSize if it would be none.
func (unit exponents) text() (string, api.Errno) {
	text, ok := unit.written()
	if !ok || len(text) > api.MaxName {
		return "", api.ErrSize
	}
	return text, api.OK
}

// written returns the text of a unit, of any length; false if an exponent has too many digits.
func (unit exponents) written() (string, bool) {
	if len(unit) == 0 {
		return "1", true
	}
	var factors []string
	for _, symbol := range slices.Sorted(maps.Keys(unit)) {
		exponent, ok := behind(unit[symbol])
		if !ok {
			return "", false
		}
		factors = append(factors, symbol+exponent)
	}
	return strings.Join(factors, "."), true
}

// behind returns what is written behind a symbol for its exponent; false if that has too many digits.
func behind(exponent exact.Number) (string, bool) {
	text, err := exponent.Text()
	if err != api.OK {
		return "", false
	}
	num, den, _ := rat.Parts(text)
	switch {
	case len(strings.TrimPrefix(num, "-")) > maxExponent || len(den) > maxExponent:
		return "", false
	case text == "1":
		return "", true
	case !exponent.IsWhole():
		return "(" + text + ")", true
	}
	return text, true
}

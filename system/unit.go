package system

import (
	"strings"

	"linkwork/api"
	"linkwork/rat"
	"linkwork/spelling"
)

const (
	maxSymbol   = 8 // letters of a symbol
	maxExponent = 9 // digits of an exponent's numerator and denominator
)

// isUnit reports whether it is a unit (chapter 4), as those of variables must be.
func isUnit(unit string) bool {
	if len(unit) > api.MaxName {
		return false
	}
	if unit == "1" {
		return true
	}
	last := ""
	for factor := range strings.SplitSeq(unit, ".") {
		symbol := symbolOf(factor)
		if len(symbol) > maxSymbol || symbol <= last || !isExponent(factor[len(symbol):]) {
			return false
		}
		last = symbol
	}
	return true
}

// symbolOf returns the letters that a factor begins with.
func symbolOf(factor string) string {
	end := 0
	for end < len(factor) && spelling.IsLetter(factor[end]) {
		end++
	}
	return factor[:end]
}

// isExponent reports whether it is an exponent as it is written behind a symbol.
func isExponent(text string) bool {
	if text == "" {
		return true
	}
	inner, open := strings.CutPrefix(text, "(")
	inner, closed := strings.CutSuffix(inner, ")")
	num, den, e := rat.Parts(inner)
	if e != api.OK || len(strings.TrimPrefix(num, "-")) > maxExponent || len(den) > maxExponent {
		return false
	}
	broken := den != "1"
	return open == broken && closed == broken && inner != "0" && inner != "1"
}

package instance

import (
	"strconv"

	"linkwork/api"
	"linkwork/exact"
)

// maxLength is the number of digits beyond which a number is too long to be calculated with: more than a product of all
// that an expression names, or a sum of all elements of an array, may have if these can be returned. Without it a row of
// parameters, each of which is a power of the one before it, would never be found.
const maxLength = 200 * api.MaxDigits

// maxWhole is the greatest Integer, and it may be as much less than 0.
const maxWhole = 1000000

// value is a number or a truth; what it is not is 0 or false.
type value struct {
	number exact.Number
	truth  bool
}

// numberOf returns the value that a number is; tooLong if it has too many digits.
func numberOf(a exact.Number) (value, api.Errno) {
	if !a.MayHave(maxLength) {
		return value{}, tooLong
	}
	return value{number: a}, api.OK
}

func truthOf(truth bool) (value, api.Errno) {
	return value{truth: truth}, api.OK
}

// textNumber returns the value that the text of a number is.
func textNumber(text string) value {
	a, _ := exact.Read(text)
	return value{number: a}
}

// text returns a value of a type.
func (v value) text(valueType int) (string, api.Errno) {
	switch {
	case valueType == api.Number:
		return v.number.Text()
	case v.truth:
		return api.True, api.OK
	}
	return api.False, api.OK
}

// whole returns the value of an Integer; false if it can be none.
func (v value) whole() (int, bool) {
	text, err := v.number.Text()
	if err != api.OK {
		return 0, false
	}
	return wholeOf(text)
}

// wholeOf returns the Integer that the text of a number is; false if it is none.
func wholeOf(text string) (int, bool) {
	n, err := strconv.Atoi(text)
	if err != nil || n < -maxWhole || n > maxWhole {
		return 0, false
	}
	return n, true
}

func areWhole(values []value) bool {
	for _, v := range values {
		if _, ok := v.whole(); !ok {
			return false
		}
	}
	return true
}

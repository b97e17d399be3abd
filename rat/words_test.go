package rat

import (
	"slices"
	"testing"
)

// Most digits of a long division are guessed right; these are divisions in which a guess is one too many.
func TestGuessTooHigh(t *testing.T) {
	half := uint32(base / 2)
	for _, c := range []struct{ a, b words }{
		{words{0, 0, half, half - 1}, words{1, 0, half}},
		{words{0, 0, 0, half, half - 1}, words{1, 0, half}},
		{words{5, 0, 0, half, half - 1}, words{base - 1, base - 1, 0, half}},
		{words{0, 0, half, half - 1, 0, half, half - 1}, words{1, 0, half}},
		{words{0, base - 1, base - 2}, words{base - 1, base - 1}},
		{words{0, 0, 0, 1}, words{base - 1, 1}},
	} {
		quotient, rest := c.a.over(c.b)
		if rest.compare(c.b) >= 0 {
			t.Errorf("%v / %v: rest %v", c.a, c.b, rest)
		}
		if back := quotient.times(c.b).plus(rest); back.compare(c.a) != 0 {
			t.Errorf("%v / %v = %v, rest %v, which is %v", c.a, c.b, quotient, rest, back)
		}
	}
	part := words{0, 0, half, half - 1}
	word := guess(part, words{1, 0, half})
	if !subtractTimes(slices.Clone(part), words{1, 0, half}, word) {
		t.Errorf("the guess %d is not too high: the cases above do not test what they should", word)
	}
}

func TestDivisor(t *testing.T) {
	steps := []uint32{1, 2, 1, 1, 999999999, 1, 1, 3, 500000000, 1, 1, 1, 2, 7, 1, 999999998}
	a, b := one(), words(nil)
	for range 6 {
		for _, q := range steps {
			a, b = a.times(words{q}).plus(b), a
			if !b.isZero() && !divisor(a, b).isOne() {
				t.Fatalf("%v and %v have the divisor %v", a, b, divisor(a, b))
			}
			factor := words{7, 0, q}
			if got := divisor(b.times(factor), a.times(factor)); got.compare(factor) != 0 {
				t.Fatalf("%v times %v and %v have the divisor %v", factor, a, b, got)
			}
		}
	}
	if got := divisor(nil, words{0, 3}); got.compare(words{0, 3}) != 0 {
		t.Errorf("0 and a number have the divisor %v", got)
	}
}

func TestDown(t *testing.T) {
	var seen []uint32
	for at, word := range (words{1, 2, 3, 4}).down() {
		seen = append(seen, uint32(at), word)
		if at == 1 {
			break
		}
	}
	if !slices.Equal(seen, []uint32{3, 4, 2, 3, 1, 2}) {
		t.Errorf("gone through as %v", seen)
	}
}

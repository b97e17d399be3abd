package exact_test

import (
	"strconv"
	"strings"
	"testing"

	"linkwork/api"
	"linkwork/exact"
	"linkwork/rat"
)

// source is a row of numbers that look random and are the same in every run.
type source uint64

func (s *source) below(n int) int {
	*s = *s*6364136223846793005 + 1442695040888963407
	return int(uint64(*s) >> 33 % uint64(n))
}

// digits returns up to n digits, often those of numbers whose words are nearly 0 or nearly full.
func (s *source) digits(n int) string {
	text := strconv.Itoa(1 + s.below(9))
	for range s.below(n) {
		text += strconv.Itoa(s.below(10))
	}
	if s.below(3) > 0 {
		return text
	}
	power, _ := rat.Pow("2", min(64, 3*n))
	power, _ = rat.Pow(power, 1+s.below(3))
	near, _ := rat.Add(power, strconv.Itoa(s.below(5)-2))
	return near
}

// number returns the text of a number whose numerator and denominator have up to n digits, or few more.
func (s *source) number(n int) string {
	if s.below(12) == 0 {
		return "0"
	}
	text := s.digits(n)
	if s.below(3) > 0 {
		text, _ = rat.Div(text, s.digits(n))
	}
	if s.below(2) == 0 {
		return "-" + text
	}
	return text
}

func read(t *testing.T, text string) exact.Number {
	t.Helper()
	a, ok := exact.Read(text)
	if !ok {
		t.Fatalf("%q is not read", text)
	}
	return a
}

// want checks the text of a number.
func want(t *testing.T, what string, a exact.Number, text string) {
	t.Helper()
	if got, e := a.Text(); got != text || e != api.OK {
		t.Fatalf("%s = %q, %d; want %q", what, got, e, text)
	}
}

func trials(law func(s *source, n int)) {
	s := source(2)
	for range 400 {
		for _, n := range []int{1, 3, 18, 19, 20, 37, 60} {
			law(&s, n)
		}
	}
}

func TestRead(t *testing.T) {
	nines := strings.Repeat("9", api.MaxDigits)
	for _, text := range []string{
		"0", "1", "-1", "7/3", "-7/3", "18446744073709551615", "18446744073709551616", "18446744073709551617", "1/18446744073709551616",
		"999999999999999999", "1000000000000000000", "1000000000000000001", "-1000000000000000000000000000000000000", "1000000000000000000/999999999999999999",
		nines, "-" + nines, "1/" + nines, "-1" + strings.Repeat("0", api.MaxDigits-1) + "/" + nines,
	} {
		want(t, text, read(t, text), text)
	}
	for _, text := range []string{"", "-", "x", "-0", "01", "1/1", "2/4", "1/0", "1/-2", "1.5", "+1", "true", "1" + nines, "1/1" + nines} {
		if a, ok := exact.Read(text); ok || a.Sign() != 0 {
			t.Errorf("%.20q is read", text)
		}
	}
}

// The functions of rat are another way to the same results, as far as these are short enough.
func TestLikeRat(t *testing.T) {
	trials(func(s *source, n int) {
		x, y := s.number(n), s.number(n)
		a, b := read(t, x), read(t, y)
		sum, _ := rat.Add(x, y)
		want(t, x+" + "+y, a.Plus(b), sum)
		difference, _ := rat.Sub(x, y)
		want(t, x+" - "+y, a.Minus(b), difference)
		product, _ := rat.Mul(x, y)
		want(t, x+" * "+y, a.Times(b), product)
		negative, _ := rat.Sub("0", x)
		want(t, "-"+x, a.Negated(), negative)
		quotient, ok := a.Over(b)
		if ok != (y != "0") {
			t.Fatalf("%s / %s: %t", x, y, ok)
		}
		if ok {
			text, _ := rat.Div(x, y)
			want(t, x+" / "+y, quotient, text)
		}
		order, _ := rat.Cmp(x, y)
		if got := a.Compare(b); got != order || a.Compare(a) != 0 {
			t.Fatalf("Compare(%s, %s) = %d", x, y, got)
		}
		sign, _ := rat.Sign(x)
		if a.Sign() != sign || a.IsWhole() != !strings.Contains(x, "/") {
			t.Fatalf("%s: Sign %d, IsWhole %t", x, a.Sign(), a.IsWhole())
		}
		want(t, x+" after all", a, x)
		want(t, y+" after all", b, y)
	})
}

// A quotient of integers that is one is found without looking for common divisors.
func TestPart(t *testing.T) {
	trials(func(s *source, n int) {
		a, b := read(t, s.digits(n)), read(t, s.digits(n))
		if s.below(2) == 0 {
			a = a.Negated()
		}
		if s.below(2) == 0 {
			b = b.Negated()
		}
		product := a.Times(b)
		if product.Part(b).Compare(a) != 0 || product.Part(a).Compare(b) != 0 {
			t.Fatal("a part of a product is not the other factor")
		}
		if one := b.Part(b); one.Compare(read(t, "1")) != 0 {
			t.Fatal("a part of a number by itself is not 1")
		}
		want(t, "0 by a number", exact.Number{}.Part(b), "0")
	})
}

func TestMayHave(t *testing.T) {
	ten := read(t, "10")
	power := read(t, "1")
	for digits := 1; digits < 700; digits++ {
		least, _ := read(t, "1").Over(power)
		for _, a := range []exact.Number{power, power.Negated(), least} {
			if !a.MayHave(digits) || !a.MayHave(2*digits) || digits > 50 && a.MayHave(digits-30) {
				t.Fatalf("it is wrong whether a number of %d digits may have them", digits)
			}
		}
		power = power.Times(ten)
	}
}

// Numbers may become longer than any that can be written, and short again.
func TestLong(t *testing.T) {
	s := source(3)
	for range 4 {
		start := s.number(300)
		a := read(t, start)
		long := a
		var factors, terms []exact.Number
		for range 30 {
			factor, term := read(t, s.digits(300)), read(t, s.number(300))
			long = long.Times(factor).Plus(term)
			factors, terms = append(factors, factor), append(terms, term)
		}
		if text, e := long.Text(); text != "" || e != api.ErrSize {
			t.Fatalf("%q, %d", text, e)
		}
		more := long.Plus(read(t, "1"))
		if more.Compare(long) != 1 || long.Compare(more) != -1 || more.Minus(long).Compare(read(t, "1")) != 0 {
			t.Fatal("a long number is not 1 less than 1 more")
		}
		for i := len(factors) - 1; i >= 0; i-- {
			quotient, ok := long.Minus(terms[i]).Over(factors[i])
			if !ok {
				t.Fatal("a quotient is not found")
			}
			long = quotient
		}
		want(t, "the start", long, start)
	}
}

func TestTooLong(t *testing.T) {
	nines := strings.Repeat("9", api.MaxDigits)
	one, most := read(t, "1"), read(t, nines)
	least, _ := one.Over(most)
	want(t, "the least", least, "1/"+nines)
	for _, a := range []exact.Number{
		most.Plus(one), most.Plus(one).Negated(), most.Times(most), least.Times(least), least.Times(read(t, "1/2")), most.Plus(least),
	} {
		if text, e := a.Text(); text != "" || e != api.ErrSize {
			t.Errorf("a number that is too long is written %q, %d", text, e)
		}
	}
	want(t, "the most", most.Plus(one).Minus(one), nines)
}

// A sum of fractions whose denominators have common divisors, and many twos.
func TestTwos(t *testing.T) {
	sum := exact.Number{}
	for n := 1; n <= 900; n += 100 {
		half := read(t, "1")
		for range n {
			half = half.Times(read(t, "1/2"))
		}
		sum = sum.Plus(half)
		for range n {
			half = half.Times(read(t, "2"))
		}
		want(t, "the power of 2 and 1/2", half, "1")
	}
	for range 801 {
		sum = sum.Times(read(t, "2"))
	}
	text := "0"
	for n := 0; n <= 800; n += 100 {
		power := "1"
		for range n / 100 {
			factor, _ := rat.Pow("2", 100)
			power, _ = rat.Mul(power, factor)
		}
		text, _ = rat.Add(text, power)
	}
	want(t, "the sum", sum, text)
}

func TestZeroValue(t *testing.T) {
	var zero exact.Number
	want(t, "it", zero, "0")
	three := read(t, "-3/2")
	want(t, "0 + a", zero.Plus(three), "-3/2")
	want(t, "a + 0", three.Plus(zero), "-3/2")
	want(t, "0 - a", zero.Minus(three), "3/2")
	want(t, "a - a", three.Minus(three), "0")
	want(t, "a * 0", three.Times(zero), "0")
	want(t, "-0", zero.Negated(), "0")
	quotient, ok := zero.Over(three)
	if !ok {
		t.Error("0 / a is not found")
	}
	want(t, "0 / a", quotient, "0")
	if q, ok := three.Over(zero); ok || q.Sign() != 0 {
		t.Error("a / 0 is found")
	}
	if zero.Sign() != 0 || !zero.IsWhole() || zero.Compare(zero) != 0 || zero.Compare(three) != 1 || three.Compare(zero) != -1 {
		t.Error("it is not compared as 0")
	}
}

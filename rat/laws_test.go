package rat_test

import (
	"strconv"
	"strings"
	"testing"

	"linkwork/api"
	"linkwork/rat"
)

// source is a row of numbers that look random and are the same in every run.
type source uint64

func (s *source) below(n int) int {
	*s = *s*6364136223846793005 + 1442695040888963407
	return int(uint64(*s) >> 33 % uint64(n))
}

// digits returns up to n digits, often with long rows of noughts or nines, where carries go far.
func (s *source) digits(n int) string {
	alphabet := []string{"0123456789", "09", "00000000001", "99999998"}[s.below(4)]
	text := strconv.Itoa(1 + s.below(9))
	for range s.below(n) {
		text += string(alphabet[s.below(len(alphabet))])
	}
	return text
}

// number returns a number whose numerator and denominator have up to n digits.
func (s *source) number(n int) string {
	if s.below(12) == 0 {
		return "0"
	}
	text := s.digits(n)
	if s.below(3) > 0 {
		text, _ = rat.Div(text, s.digits(n))
	}
	if s.below(2) == 0 {
		return "-" + text
	}
	return text
}

// reckon returns a function that returns the results of calls, and fails if one has an error or is no number.
func reckon(t *testing.T) func(a string, e api.Errno) string {
	return func(a string, e api.Errno) string {
		t.Helper()
		if e != api.OK || !rat.Is(a) {
			t.Fatalf("result %q, %d", a, e)
		}
		return a
	}
}

// lengths are the digits of the numbers with which the laws are tested, few enough for all results to fit.
func lengths() []int {
	return []int{1, 2, 4, 9, 10, 19, 28, 40}
}

func trials(t *testing.T, count int, law func(s *source, n int)) {
	t.Helper()
	s := source(20)
	for range count {
		for _, n := range lengths() {
			law(&s, n)
		}
	}
}

// P1.1
func TestField(t *testing.T) {
	is := reckon(t)
	same := func(what, a, b string) {
		t.Helper()
		if a != b {
			t.Fatalf("%s: %s and %s", what, a, b)
		}
	}
	trials(t, 300, func(s *source, n int) {
		a, b, c := s.number(n), s.number(n), s.number(n)
		sum, product := is(rat.Add(a, b)), is(rat.Mul(a, b))
		same("a + b", sum, is(rat.Add(b, a)))
		same("a * b", product, is(rat.Mul(b, a)))
		same("a + b + c", is(rat.Add(sum, c)), is(rat.Add(a, is(rat.Add(b, c)))))
		same("a * b * c", is(rat.Mul(product, c)), is(rat.Mul(a, is(rat.Mul(b, c)))))
		same("(a + b) * c", is(rat.Mul(sum, c)), is(rat.Add(is(rat.Mul(a, c)), is(rat.Mul(b, c)))))
		same("a + b - b", is(rat.Sub(sum, b)), a)
		same("a + 0", is(rat.Add(a, "0")), a)
		same("a * 1", is(rat.Mul(a, "1")), a)
		same("a - b", is(rat.Sub(a, b)), is(rat.Add(a, is(rat.Mul(b, "-1")))))
		same("sum", is(rat.Sum([]string{a, b, c})), is(rat.Sum([]string{c, a, b})))
		same("sum of sums", is(rat.Sum([]string{a, b, c})), is(rat.Add(sum, c)))
		same("dot", is(rat.Dot([]string{a, b}, []string{c, a})), is(rat.Add(is(rat.Mul(a, c)), product)))
		if b != "0" {
			same("a * b / b", is(rat.Div(product, b)), a)
			same("b / b", is(rat.Mul(b, is(rat.Div("1", b)))), "1")
		}
	})
}

// P1.2
func TestOrder(t *testing.T) {
	is := reckon(t)
	cmp := func(a, b string) int {
		order, e := rat.Cmp(a, b)
		if e != api.OK {
			t.Fatalf("Cmp(%s, %s): %d", a, b, e)
		}
		return order
	}
	trials(t, 300, func(s *source, n int) {
		a, b, c := s.number(n), s.number(n), s.number(n)
		order := cmp(a, b)
		if order != -cmp(b, a) || (order == 0) != (a == b) {
			t.Fatalf("Cmp(%s, %s) = %d", a, b, order)
		}
		if sign, e := rat.Sign(is(rat.Sub(a, b))); sign != order || e != api.OK {
			t.Fatalf("Sign of %s - %s = %d; Cmp %d", a, b, sign, order)
		}
		if order <= 0 && cmp(b, c) <= 0 && cmp(a, c) > 0 {
			t.Fatalf("%s, %s, %s are in no order", a, b, c)
		}
		if cmp(is(rat.Add(a, c)), is(rat.Add(b, c))) != order {
			t.Fatalf("%s, %s: another order with %s more", a, b, c)
		}
		if cmp(is(rat.Mul(a, c)), is(rat.Mul(b, c))) != order*cmp(c, "0") {
			t.Fatalf("%s, %s: another order %s times", a, b, c)
		}
	})
}

// P1.3
func TestNearest(t *testing.T) {
	is := reckon(t)
	trials(t, 300, func(s *source, n int) {
		a := s.number(n)
		if s.below(3) == 0 { // halves
			a = is(rat.Div(s.digits(n), "-2"))
		}
		floor, round := is(rat.Floor(a)), is(rat.Round(a))
		if strings.Contains(floor+round, "/") {
			t.Fatalf("%s: %s, %s", a, floor, round)
		}
		above := is(rat.Sub(a, floor))
		if low, _ := rat.Sign(above); low < 0 {
			t.Fatalf("Floor(%s) = %s", a, floor)
		}
		if high, _ := rat.Cmp(above, "1"); high >= 0 {
			t.Fatalf("Floor(%s) = %s", a, floor)
		}
		want := floor
		half, _ := rat.Cmp(above, "1/2")
		even, _ := rat.Multiple(is(rat.Mul(floor, floor)), "2")
		if half > 0 || half == 0 && !even {
			want = is(rat.Add(floor, "1"))
		}
		if round != want {
			t.Fatalf("Round(%s) = %s, want %s", a, round, want)
		}
	})
}

// P1.4
func TestPowers(t *testing.T) {
	is := reckon(t)
	s := source(4)
	for range 500 {
		a := s.number(9)
		m, n := s.below(31)-15, s.below(31)-15
		if a == "0" && (m < 0 || n < 0) {
			continue
		}
		product := is(rat.Mul(is(rat.Pow(a, m)), is(rat.Pow(a, n))))
		if a == "0" && m+n > 0 {
			product = "0"
		}
		if power := is(rat.Pow(a, m+n)); power != product {
			t.Fatalf("Pow(%s, %d + %d) = %s; the product is %s", a, m, n, power, product)
		}
	}
	product := "1"
	for n := range 101 {
		if power := is(rat.Pow("-3/2", n)); power != product {
			t.Fatalf("Pow(-3/2, %d) = %s; the product is %s", n, power, product)
		}
		if power := is(rat.Pow("-2/3", -n)); power != product {
			t.Fatalf("Pow(-2/3, %d) = %s; the product is %s", -n, power, product)
		}
		product = is(rat.Mul(product, "-3/2"))
	}
}

// nearest returns the number with the denominator den from a to b that is nearest to 0, if there is one.
func nearest(t *testing.T, a, b string, den int) (string, bool) {
	is := reckon(t)
	d := strconv.Itoa(den)
	low := is(rat.Sub("0", is(rat.Floor(is(rat.Mul(a, "-"+d)))))) // the least integer that is not less than a * d
	high := is(rat.Floor(is(rat.Mul(b, d))))
	if order, _ := rat.Cmp(low, high); order > 0 {
		return "", false
	}
	top := low
	if sign, _ := rat.Sign(high); sign < 0 {
		top = high
	} else if sign, _ := rat.Sign(low); sign < 0 {
		top = "0"
	}
	return is(rat.Div(top, d)), true
}

// P1.5
func TestNoSimpler(t *testing.T) {
	is := reckon(t)
	s := source(5)
	for range 3000 {
		a := s.number(2)
		b := is(rat.Add(a, is(rat.Div(strconv.Itoa(s.below(50)), strconv.Itoa(1+s.below(900))))))
		want, found := "", false
		for den := 1; !found; den++ {
			want, found = nearest(t, a, b, den)
		}
		if got := is(rat.Simplest(a, b)); got != want {
			t.Fatalf("Simplest(%s, %s) = %s, want %s", a, b, got, want)
		}
	}
	// What is simpler than a number with a long denominator is next to it, at the least possible distance.
	trials(t, 50, func(s *source, n int) {
		a := s.number(n)
		num, den, _ := rat.Parts(a)
		step := is(rat.Div("1", is(rat.Mul(den, den))))
		got := is(rat.Simplest(is(rat.Sub(a, is(rat.Mul(step, "1/2")))), is(rat.Add(a, is(rat.Mul(step, "1/2"))))))
		if got != a {
			t.Fatalf("Simplest around %s/%s = %s", num, den, got)
		}
	})
}

// P1.6
func TestGreatestCommon(t *testing.T) {
	is := reckon(t)
	trials(t, 60, func(s *source, n int) {
		unit := is(rat.Div(s.digits(n), s.digits(n)))
		var l []string
		for range 1 + s.below(4) {
			l = append(l, is(rat.Mul(unit, is(rat.Div(s.digits(3), strconv.Itoa(1+s.below(9)))))))
		}
		common := is(rat.Common(l))
		if sign, _ := rat.Sign(common); sign <= 0 {
			t.Fatalf("Common(%v) = %s", l, common)
		}
		divisor := 0
		for _, a := range l {
			if ok, _ := rat.Multiple(a, common); !ok {
				t.Fatalf("Common(%v) = %s: %s is no multiple", l, common, a)
			}
			times, err := strconv.Atoi(is(rat.Div(a, common)))
			if err != nil {
				t.Fatal(err)
			}
			for times > 0 {
				divisor, times = times, divisor%times
			}
		}
		if divisor != 1 { // otherwise that many times Common is common, too
			t.Fatalf("Common(%v) = %s: %d times as much is common", l, common, divisor)
		}
	})
}

// P1.7
func TestOneForm(t *testing.T) {
	is := reckon(t)
	trials(t, 200, func(s *source, n int) {
		a, f := s.number(n), s.number(n)
		num, den, _ := rat.Parts(a)
		is(num, api.OK)
		is(den, api.OK)
		if strings.Contains(num+den, "/") || is(rat.Div(num, den)) != a {
			t.Fatalf("Parts(%s) = %s, %s", a, num, den)
		}
		if f != "0" && is(rat.Div(is(rat.Mul(num, f)), is(rat.Mul(den, f)))) != a {
			t.Fatalf("%s/%s is not %s with both terms %s times", num, den, a, f)
		}
		if zero := is(rat.Sub(a, a)); zero != "0" {
			t.Fatalf("%s - %s = %s", a, a, zero)
		}
		if num != "0" && den != "1" && rat.Is(is(rat.Mul(num, "7"))+"/"+is(rat.Mul(den, "7"))) {
			t.Fatalf("%s in other than lowest terms is a number", a)
		}
	})
	for num := -30; num <= 30; num++ {
		for den := 1; den <= 30; den++ {
			made := is(rat.Make(num, den))
			if other := is(rat.Make(-num, -den)); other != made {
				t.Fatalf("%d/%d: %s and %s", num, den, made, other)
			}
			lowest := den > 1 && made == strconv.Itoa(num)+"/"+strconv.Itoa(den)
			if rat.Is(strconv.Itoa(num)+"/"+strconv.Itoa(den)) != lowest {
				t.Fatalf("%d/%d is written %s", num, den, made)
			}
		}
	}
}

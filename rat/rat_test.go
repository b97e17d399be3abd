package rat_test

import (
	"math"
	"slices"
	"strings"
	"testing"

	"linkwork/api"
	"linkwork/rat"
)

var (
	nines = strings.Repeat("9", api.MaxDigits)                   // the greatest integer that is a number
	ten   = func(n int) string { return "1" + noughts(n) }       // 10 to the power of n
	long  = func(n int) string { return ten(n - 1)[:n-1] + "1" } // n digits, the last one 1, prime to 10
)

func noughts(n int) string {
	return strings.Repeat("0", n)
}

// result is what a call returns, and what it should return.
type result struct {
	call string
	got  string
	e    api.Errno
	want string
	we   api.Errno
}

func (r result) check(t *testing.T) {
	t.Helper()
	if r.got != r.want || r.e != r.we {
		t.Errorf("%s = %q, %d; want %q, %d", r.call, r.got, r.e, r.want, r.we)
	}
}

// pair is a call with two numbers.
type pair struct {
	a, b, want string
	we         api.Errno
}

func checkPairs(t *testing.T, name string, f func(a, b string) (string, api.Errno), l []pair) {
	t.Helper()
	for _, c := range l {
		got, e := f(c.a, c.b)
		result{name + "(" + c.a + ", " + c.b + ")", got, e, c.want, c.we}.check(t)
	}
}

func TestIs(t *testing.T) {
	half := "1" + noughts(api.MaxDigits-1)
	for _, s := range []string{
		"0", "1", "-1", "9", "10", "1000000000", "-999999999", "123456789012345678901234567890",
		"1/2", "-1/2", "3/2", "-3/2", "7/1000000000", "1000000000/7", "1/10", "10/9",
		nines, "-" + nines, "1/" + nines, "-1/" + nines, half + "/" + nines, "-" + half + "/" + nines,
	} {
		if !rat.Is(s) {
			t.Errorf("%q is no number", s)
		}
	}
	for _, s := range []string{
		"", "-", "+1", "--1", "-0", "00", "01", "-01", "007", " 1", "1 ", "1\n", "\x00", "1\x00",
		"a", "1a", "x", "1.5", "1e3", "0x1", "1,000", "1_000", "true", "٣", "½", "−1", "\xff",
		"/", "1/", "/2", "-/2", "1//2", "1/2/3", "1/2/", "0/1", "0/5", "-0/5", "1/0", "0/0",
		"1/1", "5/1", "2/4", "-2/4", "3/3", "1/-2", "-1/-2", "1/+2", "1/02", "01/2", "1/ 2", "1 /2", "1/x", "x/2",
		"1000000000000000000/2000000000000000000", "999999999999999999999999999/3",
		"1" + noughts(api.MaxDigits), "-1" + noughts(api.MaxDigits), "1/1" + noughts(api.MaxDigits),
		"1" + noughts(api.MaxDigits) + "/3", noughts(301), strings.Repeat("7", 100000),
	} {
		if rat.Is(s) {
			t.Errorf("%.40q is a number", s)
		}
	}
}

func TestMake(t *testing.T) {
	for _, c := range []struct {
		num, den int
		want     string
		we       api.Errno
	}{
		{3, 2, "3/2", api.OK}, {6, -4, "-3/2", api.OK}, {-6, 4, "-3/2", api.OK}, {-6, -4, "3/2", api.OK},
		{0, 5, "0", api.OK}, {0, -5, "0", api.OK}, {7, 1, "7", api.OK}, {7, -1, "-7", api.OK}, {14, 7, "2", api.OK},
		{1000000000, 999999999, "1000000000/999999999", api.OK},
		{math.MinInt64, 1, "-9223372036854775808", api.OK}, {math.MinInt64, -1, "9223372036854775808", api.OK},
		{math.MinInt64, math.MinInt64, "1", api.OK}, {1, math.MinInt64, "-1/9223372036854775808", api.OK},
		{math.MaxInt64, math.MinInt64, "-9223372036854775807/9223372036854775808", api.OK},
		{1, 0, "", api.ErrZero}, {0, 0, "", api.ErrZero}, {math.MinInt64, 0, "", api.ErrZero},
	} {
		got, e := rat.Make(c.num, c.den)
		result{"Make", got, e, c.want, c.we}.check(t)
	}
}

func TestParts(t *testing.T) {
	for _, c := range []struct {
		a, num, den string
		we          api.Errno
	}{
		{"-3/2", "-3", "2", api.OK}, {"3/2", "3", "2", api.OK}, {"7", "7", "1", api.OK}, {"-7", "-7", "1", api.OK},
		{"0", "0", "1", api.OK}, {nines, nines, "1", api.OK}, {"-1/" + nines, "-1", nines, api.OK},
		{"2/4", "", "", api.ErrForm}, {"", "", "", api.ErrForm}, {"-0", "", "", api.ErrForm},
	} {
		num, den, e := rat.Parts(c.a)
		if num != c.num || den != c.den || e != c.we {
			t.Errorf("Parts(%s) = %q, %q, %d; want %q, %q, %d", c.a, num, den, e, c.num, c.den, c.we)
		}
	}
}

func TestAddSub(t *testing.T) {
	checkPairs(t, "Add", rat.Add, []pair{
		{"1/2", "1/3", "5/6", api.OK}, {"1/2", "1/2", "1", api.OK}, {"1/2", "-1/2", "0", api.OK}, {"0", "0", "0", api.OK},
		{"1/6", "1/10", "4/15", api.OK}, {"1/6", "-1/10", "1/15", api.OK}, {"-1/6", "-1/3", "-1/2", api.OK},
		{"999999999", "1", "1000000000", api.OK}, {"1000000000000000000", "-1", "999999999999999999", api.OK},
		{"0", nines, nines, api.OK}, {"-" + nines, nines, "0", api.OK}, {nines, "-1", nines[1:] + "8", api.OK},
		{nines, "1", "", api.ErrSize}, {"-" + nines, "-1", "", api.ErrSize}, {nines, "1/2", "", api.ErrSize},
		{ten(299) + "/" + long(300), "1/" + long(300), "1", api.OK}, {"1/" + nines, "-1/" + nines, "0", api.OK},
		{"1/" + ten(299), "1/" + long(300), "", api.ErrSize}, {"1/" + ten(150), "1/" + long(151), "", api.ErrSize},
		{"1/" + ten(150), "1/" + long(150), "11" + noughts(148) + "1/" + long(150) + noughts(150), api.OK},
		{"1/" + nines, "1", "", api.ErrSize}, {"1/" + nines, "-1", "-" + nines[1:] + "8/" + nines, api.OK},
		{"x", "1", "", api.ErrForm}, {"1", "x", "", api.ErrForm}, {nines, "01", "", api.ErrForm}, {"2/4", nines, "", api.ErrForm},
	})
	checkPairs(t, "Sub", rat.Sub, []pair{
		{"1/2", "1/3", "1/6", api.OK}, {"1/3", "1/2", "-1/6", api.OK}, {"1/2", "1/2", "0", api.OK}, {"0", "3", "-3", api.OK},
		{"0", "0", "0", api.OK}, {"-1", "-1", "0", api.OK}, {"1000000000000000000", "1", "999999999999999999", api.OK},
		{nines, "1", nines[1:] + "8", api.OK}, {nines, "-1", "", api.ErrSize}, {"-" + nines, "1", "", api.ErrSize},
		{"", "1", "", api.ErrForm}, {"1", "-0", "", api.ErrForm}, {"-" + nines, "1/1", "", api.ErrForm},
	})
}

func TestMulDiv(t *testing.T) {
	checkPairs(t, "Mul", rat.Mul, []pair{
		{"2/3", "3/2", "1", api.OK}, {"-2/3", "9/4", "-3/2", api.OK}, {"-1/2", "-1/2", "1/4", api.OK}, {"0", "-7/3", "0", api.OK},
		{"-7/3", "0", "0", api.OK}, {"0", "0", "0", api.OK}, {"1", "-7/3", "-7/3", api.OK},
		{"999999999", "999999999", "999999998000000001", api.OK}, {"1000000000", "1000000000", "1000000000000000000", api.OK},
		{ten(150), ten(149), ten(299), api.OK}, {ten(150), ten(150), "", api.ErrSize}, {ten(150), "-" + ten(150), "", api.ErrSize},
		{"1/" + ten(150), "1/" + ten(149), "1/" + ten(299), api.OK}, {"1/" + ten(150), "-1/" + ten(150), "", api.ErrSize},
		{nines, "1/" + nines, "1", api.OK}, {nines, "2", "", api.ErrSize}, {ten(299), "1/" + ten(299), "1", api.OK},
		{"x", "0", "", api.ErrForm}, {"0", "x", "", api.ErrForm}, {ten(300), "0", "", api.ErrForm},
	})
	checkPairs(t, "Div", rat.Div, []pair{
		{"1", "-3", "-1/3", api.OK}, {"-1", "-3", "1/3", api.OK}, {"6", "3", "2", api.OK}, {"0", "-3", "0", api.OK},
		{"3/4", "-9/8", "-2/3", api.OK}, {"-3/4", "9/8", "-2/3", api.OK}, {nines, nines, "1", api.OK}, {nines, "-" + nines, "-1", api.OK},
		{ten(150), "1/" + ten(149), ten(299), api.OK}, {ten(150), "1/" + ten(150), "", api.ErrSize},
		{"1/" + ten(150), ten(149), "1/" + ten(299), api.OK}, {"1/" + ten(150), ten(150), "", api.ErrSize},
		{"1", "0", "", api.ErrZero}, {"0", "0", "", api.ErrZero}, {"1", "x", "", api.ErrForm}, {"x", "0", "", api.ErrForm}, {"1", "-0", "", api.ErrForm},
	})
}

func TestCmpSign(t *testing.T) {
	for _, c := range []struct {
		a, b string
		want int
		we   api.Errno
	}{
		{"1/2", "1/3", 1, api.OK}, {"1/3", "1/2", -1, api.OK}, {"1/2", "1/2", 0, api.OK}, {"-1/2", "-1/3", -1, api.OK},
		{"-1/3", "-1/2", 1, api.OK}, {"-1", "1", -1, api.OK}, {"1", "-1", 1, api.OK}, {"0", "0", 0, api.OK}, {"0", "-1/9", 1, api.OK},
		{"0", "1/9", -1, api.OK}, {"1000000000", "999999999", 1, api.OK}, {"2000000000", "1000000001", 1, api.OK},
		{"1000000001", "2000000000", -1, api.OK}, {nines, "-" + nines, 1, api.OK}, {nines, "1/" + nines, 1, api.OK}, {nines, nines, 0, api.OK},
		{"1/" + nines, "1/" + long(300), -1, api.OK}, {nines + "/" + ten(299), long(300) + "/" + ten(299), 1, api.OK},
		{"x", "1", 0, api.ErrForm}, {"1", "x", 0, api.ErrForm}, {"1", "1/1", 0, api.ErrForm},
	} {
		if got, e := rat.Cmp(c.a, c.b); got != c.want || e != c.we {
			t.Errorf("Cmp(%s, %s) = %d, %d; want %d, %d", c.a, c.b, got, e, c.want, c.we)
		}
	}
	for a, want := range map[string]int{"0": 0, "1": 1, "-1": -1, "1/2": 1, "-1/2": -1, nines: 1, "-1/" + nines: -1} {
		if got, e := rat.Sign(a); got != want || e != api.OK {
			t.Errorf("Sign(%s) = %d, %d; want %d", a, got, e, want)
		}
	}
	if got, e := rat.Sign("-0"); got != 0 || e != api.ErrForm {
		t.Errorf("Sign(-0) = %d, %d", got, e)
	}
}

func TestSum(t *testing.T) {
	for _, c := range []struct {
		l    []string
		want string
		we   api.Errno
	}{
		{nil, "0", api.OK}, {[]string{}, "0", api.OK}, {[]string{"-3/2"}, "-3/2", api.OK}, {[]string{nines}, nines, api.OK},
		{[]string{"1/2", "1/3", "1/6"}, "1", api.OK}, {[]string{"1/2", "-1/3", "-1/6"}, "0", api.OK},
		{[]string{nines, nines, "-" + nines}, nines, api.OK}, {[]string{nines, "1", "-1"}, nines, api.OK},
		{[]string{"1/" + ten(299), "1/" + long(300), "-1/" + ten(299)}, "1/" + long(300), api.OK},
		{[]string{"1/" + ten(299), "1/" + long(300), "-1/" + ten(299), "-1/" + long(300)}, "0", api.OK},
		{[]string{nines, "1"}, "", api.ErrSize}, {[]string{nines, "1", "-1/2"}, "", api.ErrSize},
		{[]string{"1/" + ten(299), "1/" + long(300)}, "", api.ErrSize},
		{[]string{"x"}, "", api.ErrForm}, {[]string{"1", "2", "2/4"}, "", api.ErrForm}, {[]string{nines, "1", ""}, "", api.ErrForm},
	} {
		before := slices.Clone(c.l)
		got, e := rat.Sum(c.l)
		result{"Sum", got, e, c.want, c.we}.check(t)
		if !slices.Equal(before, c.l) {
			t.Errorf("Sum has changed %v to %v", before, c.l)
		}
	}
}

func TestDot(t *testing.T) {
	for _, c := range []struct {
		a, b []string
		want string
		we   api.Errno
	}{
		{nil, nil, "0", api.OK}, {nil, []string{}, "0", api.OK}, {[]string{"1/2", "3"}, []string{"4", "1/3"}, "3", api.OK},
		{[]string{"1/2"}, []string{"-2/3"}, "-1/3", api.OK}, {[]string{"0", "0"}, []string{nines, "1/2"}, "0", api.OK},
		{[]string{nines, "-" + nines, "5"}, []string{nines, nines, "7"}, "35", api.OK},
		{[]string{"1/" + nines, "-1/" + nines}, []string{"1/" + nines, "1/" + nines}, "0", api.OK},
		{[]string{ten(150), "1"}, []string{ten(149), "1"}, ten(299)[:299] + "1", api.OK},
		{[]string{ten(150)}, []string{ten(150)}, "", api.ErrSize}, {[]string{"1/" + ten(150)}, []string{"1/" + ten(150)}, "", api.ErrSize},
		{[]string{"1"}, nil, "", api.ErrArg}, {nil, []string{"1"}, "", api.ErrArg}, {[]string{"1", "2"}, []string{"1"}, "", api.ErrArg},
		{[]string{ten(150), "1"}, []string{ten(150)}, "", api.ErrArg},
		{[]string{"x"}, nil, "", api.ErrForm}, {nil, []string{"x"}, "", api.ErrForm}, {[]string{"1", "2"}, []string{"1", "x"}, "", api.ErrForm},
		{[]string{"1", "x"}, []string{"1"}, "", api.ErrForm}, {[]string{"1"}, []string{"1", "1/1"}, "", api.ErrForm},
	} {
		a, b := slices.Clone(c.a), slices.Clone(c.b)
		got, e := rat.Dot(c.a, c.b)
		result{"Dot", got, e, c.want, c.we}.check(t)
		if !slices.Equal(a, c.a) || !slices.Equal(b, c.b) {
			t.Errorf("Dot has changed %v, %v", a, b)
		}
	}
}

func TestFloorRound(t *testing.T) {
	odd := ten(298) + "1"
	for _, c := range []struct {
		a, floor, round string
		we              api.Errno
	}{
		{"0", "0", "0", api.OK}, {"5", "5", "5", api.OK}, {"-5", "-5", "-5", api.OK},
		{"1/2", "0", "0", api.OK}, {"-1/2", "-1", "0", api.OK}, {"3/2", "1", "2", api.OK}, {"-3/2", "-2", "-2", api.OK},
		{"5/2", "2", "2", api.OK}, {"-5/2", "-3", "-2", api.OK}, {"7/2", "3", "4", api.OK}, {"-7/2", "-4", "-4", api.OK},
		{"1/3", "0", "0", api.OK}, {"2/3", "0", "1", api.OK}, {"-1/3", "-1", "0", api.OK}, {"-2/3", "-1", "-1", api.OK},
		{"8/3", "2", "3", api.OK}, {"-8/3", "-3", "-3", api.OK}, {"7/3", "2", "2", api.OK}, {"-7/3", "-3", "-2", api.OK},
		{"1999999999/2", "999999999", "1000000000", api.OK}, {"-1999999999/2", "-1000000000", "-1000000000", api.OK},
		{"2000000001/2", "1000000000", "1000000000", api.OK}, {"-2000000001/2", "-1000000001", "-1000000000", api.OK},
		{"100000000000000000001/2", "50000000000000000000", "50000000000000000000", api.OK},
		{"100000000000000000003/2", "50000000000000000001", "50000000000000000002", api.OK},
		{"999999999999999999999999999/1000000000000000000000", "999999", "1000000", api.OK},
		{nines, nines, nines, api.OK}, {"-" + nines, "-" + nines, "-" + nines, api.OK},
		{"1/" + nines, "0", "0", api.OK}, {"-1/" + nines, "-1", "0", api.OK},
		{odd + "/2", "5" + noughts(298), "5" + noughts(298), api.OK}, {"-" + odd + "/2", "-5" + noughts(297) + "1", "-5" + noughts(298), api.OK},
		{"x", "", "", api.ErrForm}, {"2/4", "", "", api.ErrForm}, {"", "", "", api.ErrForm},
	} {
		got, e := rat.Floor(c.a)
		result{"Floor(" + c.a + ")", got, e, c.floor, c.we}.check(t)
		got, e = rat.Round(c.a)
		result{"Round(" + c.a + ")", got, e, c.round, c.we}.check(t)
	}
}

func TestPow(t *testing.T) {
	for _, c := range []struct {
		a    string
		n    int
		want string
		we   api.Errno
	}{
		{"2/3", 3, "8/27", api.OK}, {"2/3", -3, "27/8", api.OK}, {"-2/3", 3, "-8/27", api.OK}, {"-2/3", -3, "-27/8", api.OK},
		{"-2/3", 2, "4/9", api.OK}, {"-2/3", -2, "9/4", api.OK}, {"5/7", 0, "1", api.OK}, {"-5", 0, "1", api.OK}, {"5/7", 1, "5/7", api.OK},
		{"5/7", -1, "7/5", api.OK}, {"-5", -1, "-1/5", api.OK}, {"1/5", -1, "5", api.OK},
		{"0", 0, "1", api.OK}, {"0", 1, "0", api.OK}, {"0", 100, "0", api.OK}, {"1", 100, "1", api.OK}, {"-1", 99, "-1", api.OK}, {"-1", -100, "1", api.OK},
		{"2", 64, "18446744073709551616", api.OK}, {"2", 100, "1267650600228229401496703205376", api.OK},
		{"2", -100, "1/1267650600228229401496703205376", api.OK}, {"1/2", -100, "1267650600228229401496703205376", api.OK},
		{"10", 100, ten(100), api.OK}, {"100000", 59, ten(295), api.OK}, {"100000", 60, "", api.ErrSize}, {"100000", -60, "", api.ErrSize},
		{"1/100000", 60, "", api.ErrSize}, {"1000", 99, ten(297), api.OK}, {"1000", 100, "", api.ErrSize}, {"-1000", 100, "", api.ErrSize},
		{"1000", -100, "", api.ErrSize}, {ten(150), 2, "", api.ErrSize}, {ten(149), 2, ten(298), api.OK}, {nines, 1, nines, api.OK}, {nines, 100, "", api.ErrSize},
		{nines, 0, "1", api.OK}, {"1/" + nines, -1, nines, api.OK},
		{"0", -1, "", api.ErrZero}, {"0", -100, "", api.ErrZero}, {"0", -101, "", api.ErrArg}, {"0", 101, "", api.ErrArg},
		{"1", 101, "", api.ErrArg}, {"1", -101, "", api.ErrArg}, {nines, 101, "", api.ErrArg}, {"1", math.MaxInt64, "", api.ErrArg}, {"1", math.MinInt64, "", api.ErrArg},
		{"x", 1, "", api.ErrForm}, {"x", 101, "", api.ErrForm}, {"-0", -1, "", api.ErrForm},
	} {
		got, e := rat.Pow(c.a, c.n)
		result{"Pow(" + c.a + ")", got, e, c.want, c.we}.check(t)
	}
	// The greatest power that has 300 digits, and the exponent -100 and 100, too.
	half, _ := rat.Pow("999", 50)
	want, _ := rat.Mul(half, half)
	for a, n := range map[string]int{"999": 100, "1/999": -100} {
		if got, e := rat.Pow(a, n); e != api.OK || len(got) != api.MaxDigits || got != want {
			t.Errorf("Pow(%s, %d) = %q, %d; want %q", a, n, got, e, want)
		}
	}
}

func TestMultiple(t *testing.T) {
	for _, c := range []struct {
		a, step string
		want    bool
		we      api.Errno
	}{
		{"3/2", "1/2", true, api.OK}, {"1/2", "1/2", true, api.OK}, {"0", "1/2", true, api.OK}, {"0", nines, true, api.OK},
		{"1/2", "3/2", false, api.OK}, {"1/3", "1/2", false, api.OK}, {"5/6", "1/3", false, api.OK}, {"-1/2", "1/2", false, api.OK}, {"-3", "1", false, api.OK},
		{"3", "1", true, api.OK}, {"7/2", "1", false, api.OK}, {nines, "1/" + nines, true, api.OK}, {nines, nines, true, api.OK}, {"1", nines, false, api.OK},
		{"1", "0", false, api.ErrArg}, {"0", "0", false, api.ErrArg}, {"1", "-1", false, api.ErrArg}, {"-1", "-1", false, api.ErrArg},
		{"x", "1", false, api.ErrForm}, {"1", "x", false, api.ErrForm}, {"x", "0", false, api.ErrForm}, {"x", "-1", false, api.ErrForm},
	} {
		if got, e := rat.Multiple(c.a, c.step); got != c.want || e != c.we {
			t.Errorf("Multiple(%s, %s) = %t, %d; want %t, %d", c.a, c.step, got, e, c.want, c.we)
		}
	}
}

func TestSimplest(t *testing.T) {
	checkPairs(t, "Simplest", rat.Simplest, []pair{
		{"1/3", "1/2", "1/2", api.OK}, {"-1/2", "-1/3", "-1/2", api.OK}, {"-7/5", "-4/3", "-4/3", api.OK}, {"4/3", "7/5", "4/3", api.OK},
		{"7/5", "10/7", "7/5", api.OK}, {"311/100", "63/20", "22/7", api.OK}, {"-63/20", "-311/100", "-22/7", api.OK},
		{"0", "0", "0", api.OK}, {"0", "5", "0", api.OK}, {"-5", "0", "0", api.OK}, {"-1/2", "1/3", "0", api.OK}, {"-5", "5", "0", api.OK},
		{"5/2", "9/2", "3", api.OK}, {"2", "9/2", "2", api.OK}, {"-9/2", "-5/2", "-3", api.OK}, {"-9/2", "-2", "-2", api.OK}, {"5/2", "3", "3", api.OK},
		{"3/7", "3/7", "3/7", api.OK}, {"-3/7", "-3/7", "-3/7", api.OK}, {"1/" + nines, "1/" + nines, "1/" + nines, api.OK}, {nines, nines, nines, api.OK},
		{"1/" + nines, "1/" + nines[1:], "1/" + nines[1:], api.OK}, {"-" + nines, nines, "0", api.OK},
		{"1000000000/1000000001", "1000000001/1000000002", "1000000000/1000000001", api.OK},
		{"1", "0", "", api.ErrArg}, {"-1/3", "-1/2", "", api.ErrArg}, {nines, "-" + nines, "", api.ErrArg},
		{"x", "1", "", api.ErrForm}, {"1", "x", "", api.ErrForm}, {"1", "-0", "", api.ErrForm},
	})
}

func TestCommon(t *testing.T) {
	for _, c := range []struct {
		l    []string
		want string
		we   api.Errno
	}{
		{[]string{"1/2", "3/4"}, "1/4", api.OK}, {[]string{"7/3"}, "7/3", api.OK}, {[]string{"6", "4"}, "2", api.OK}, {[]string{"2/3", "4/9", "6/5"}, "2/45", api.OK},
		{[]string{"3/2", "3/2", "3/2"}, "3/2", api.OK}, {[]string{"1", "1/3", "1/2"}, "1/6", api.OK}, {[]string{nines, nines}, nines, api.OK},
		{[]string{nines, "1/" + nines}, "1/" + nines, api.OK}, {[]string{"1/" + ten(150), "1/" + long(150)}, "1/" + long(150) + noughts(150), api.OK},
		{[]string{"1/" + ten(150), "1/" + long(151)}, "", api.ErrSize}, {[]string{"1/" + ten(299), "1/" + long(300)}, "", api.ErrSize},
		{[]string{"1/" + ten(299), "1/" + long(300), "1"}, "", api.ErrSize},
		{nil, "", api.ErrNone}, {[]string{}, "", api.ErrNone},
		{[]string{"0"}, "", api.ErrArg}, {[]string{"-1"}, "", api.ErrArg}, {[]string{"1", "-1/2"}, "", api.ErrArg}, {[]string{"0", "1"}, "", api.ErrArg},
		{[]string{"1/" + ten(299), "1/" + long(300), "0"}, "", api.ErrArg},
		{[]string{"x"}, "", api.ErrForm}, {[]string{"0", "x"}, "", api.ErrForm}, {[]string{"1", "2", "2/2"}, "", api.ErrForm},
	} {
		before := slices.Clone(c.l)
		got, e := rat.Common(c.l)
		result{"Common", got, e, c.want, c.we}.check(t)
		if !slices.Equal(before, c.l) {
			t.Errorf("Common has changed %v to %v", before, c.l)
		}
	}
}

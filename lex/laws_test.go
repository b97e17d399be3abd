package lex_test

import (
	"regexp"
	"slices"
	"strings"
	"testing"

	"linkwork/api"
	"linkwork/lex"
	"linkwork/rat"
)

// tight returns a source whose tokens may follow one another without a gap, so that some of them join.
func (s *source) tight(tokens int) string {
	text := pick(s, "", s.gap())
	for range tokens {
		text += s.token() + pick(s, "", "", "", s.gap())
	}
	return text
}

// wild returns a text of bytes and parts of tokens, which is often no source.
func (s *source) wild() string {
	text := ""
	for range s.below(12) {
		switch s.below(4) {
		case 0:
			text += s.some("a1_\"=<>/.,$ \t\n\r\x00~\x7f\xc3\xa9", 0, 4)
		case 1:
			text += s.some(letters+digits+"_", 0, 25)
		case 2:
			text += s.some(digits, 0, 17) + pick(s, "", ".", ".", s.some(digits, 0, 17))
		default:
			text += s.token()
		}
	}
	return text
}

// Scan does what the second way to the tokens does.
func TestScanAsRuled(t *testing.T) {
	s := source(5)
	fine, bad := 0, 0
	for trial := range 20000 {
		text := s.wild()
		if trial%2 == 0 {
			text = s.tight(s.below(8))
		}
		got, at, err := lex.Scan(text)
		want, wantAt, wantErr := divided(text)
		if !slices.Equal(got, want) || at != wantAt || err != wantErr {
			t.Fatalf("Scan(%q): %v, %d, %d, want %v, %d, %d", text, got, at, err, want, wantAt, wantErr)
		}
		if err == api.OK && len(got) > 2 {
			fine++
		} else if at > 2 {
			bad++
		}
	}
	if fine < 3000 || bad < 3000 {
		t.Errorf("%d sources, %d that are none", fine, bad)
	}
}

// P5.1
func TestLawText(t *testing.T) {
	s := source(51)
	kinds := map[int]int{}
	for range 4000 {
		var tokens []api.Token
		for range s.below(12) {
			token := scan(t, s.token())[0]
			token.At = s.below(9) - 4
			tokens = append(tokens, token)
			kinds[token.Kind]++
		}
		text := write(t, tokens)
		again := scan(t, text)
		if !slices.Equal(placeless(again), placeless(tokens)) {
			t.Fatalf("%v is %q, and that is %v", tokens, text, again)
		}
		if second := write(t, again); second != text {
			t.Fatalf("%q, and again %q", text, second)
		}
		at := 0
		for _, token := range again { // single blanks, and nothing else, are between the tokens
			if _, found := ruled(text[at:]); token.At != at || found == "" {
				t.Fatalf("%q: %v, want a token at %d", text, again, at)
			} else {
				at += len(found) + 1
			}
			if at <= len(text) && text[at-1] != ' ' {
				t.Fatalf("%q: no blank at %d", text, at-1)
			}
		}
	}
	for kind := api.TokWord; kind <= api.TokSymbol; kind++ {
		if kinds[kind] < 1000 {
			t.Errorf("%d tokens of kind %d", kinds[kind], kind)
		}
	}
}

// Text takes a fraction just if it is in lowest terms, and some decimal of at most 15 digits on either side is it;
// and writes the shortest.
func TestLawTextNumbers(t *testing.T) {
	s := source(52)
	taken, refused := 0, 0
	for range 6000 {
		number, _ := rat.Div(strings.TrimLeft(s.some("1234567890", 1, 19), "0")+"1", s.denominator())
		want := decimalOf(number)
		got, err := lex.Text([]api.Token{tok(api.TokNum, number)})
		if got != want || (err == api.OK) != (want != "") || err != api.OK && err != api.ErrForm {
			t.Fatalf("%s: %q, %d, want %q", number, got, err, want)
		}
		if err == api.OK {
			taken++
		} else {
			refused++
		}
	}
	if taken < 1500 || refused < 1500 {
		t.Errorf("%d taken, %d refused", taken, refused)
	}
}

// denominator returns a number of few primes.
func (s *source) denominator() string {
	twos, _ := rat.Pow("2", s.below(18))
	fives, _ := rat.Pow("5", s.below(18))
	below, _ := rat.Mul(twos, fives)
	below, _ = rat.Mul(below, pick(s, "1", "1", "1", "1", "1", "3", "7", "11"))
	return below
}

// decimalOf returns the shortest decimal of a number, by trying, or nothing.
func decimalOf(number string) string {
	for places := range 16 {
		power := "1" + strings.Repeat("0", places)
		above, _ := rat.Mul(number, power)
		if strings.Contains(above, "/") {
			continue
		}
		above = strings.Repeat("0", max(0, places+1-len(above))) + above
		point := len(above) - places
		if point > 15 {
			return ""
		}
		if places == 0 {
			return above
		}
		return above[:point] + "." + above[point:]
	}
	return ""
}

// P5.2
func TestLawPlaces(t *testing.T) {
	s := source(53)
	wholeGap := regexp.MustCompile(`^(?:[ \t\n]|//[^\n]*(?:\n|$))*$`)
	adjoined := 0
	for range 4000 {
		text := s.tight(s.below(10))
		tokens, _, err := lex.Scan(text)
		if err != api.OK {
			continue
		}
		end := 0
		for _, token := range append(tokens, api.Token{At: len(text)}) {
			if token.At < end || !wholeGap.MatchString(text[end:token.At]) {
				t.Fatalf("%q: %v, not a gap from %d to %d", text, tokens, end, token.At)
			}
			if token.At == end {
				adjoined++
			}
			again, found := ruled(text[token.At:])
			if token.Kind != 0 && (again.Kind != token.Kind || again.Text != token.Text) {
				t.Fatalf("%q: %v is not at its place", text, token)
			}
			end = token.At + len(found)
		}
	}
	if adjoined < 4000 {
		t.Errorf("%d tokens without a gap before them", adjoined)
	}
}

// P5.3
func TestLawLongest(t *testing.T) {
	s := source(54)
	oneToken := regexp.MustCompile(`^(?:[A-Za-z][A-Za-z0-9_]{0,19}|[0-9]{1,15}(?:\.[0-9]{1,15})?|"[ !#-~]{0,40}"|==|<>|<=|>=|[][(){},;:.=<>+*/-])$`)
	count := 0
	for range 2000 {
		text := s.tight(s.below(8))
		tokens, _, err := lex.Scan(text)
		if err != api.OK {
			continue
		}
		for _, token := range tokens {
			_, found := ruled(text[token.At:])
			for length := len(found); token.At+length <= len(text) && length < 60; length++ {
				part := text[token.At : token.At+length]
				if oneToken.MatchString(part) != (length == len(found)) {
					t.Fatalf("%q: %v, of %d bytes, %q", text, token, len(found), part)
				}
			}
			count++
		}
	}
	if count < 3000 {
		t.Errorf("%d tokens", count)
	}
}

// P5.4
func TestLawSpaces(t *testing.T) {
	s := source(55)
	count := 0
	for range 3000 {
		text := s.tight(s.below(10))
		tokens, _, err := lex.Scan(text)
		if err != api.OK {
			continue
		}
		more := text
		for _, token := range slices.Backward(tokens) {
			_, found := ruled(text[token.At:])
			end := token.At + len(found)
			if s.below(2) == 0 {
				more = more[:end] + s.newGap() + more[end:]
			}
			if s.below(2) == 0 {
				more = more[:token.At] + s.newGap() + more[token.At:]
			}
		}
		got := scan(t, more)
		if !slices.Equal(placeless(got), placeless(tokens)) {
			t.Fatalf("%q: %v; %q: %v", text, tokens, more, got)
		}
		if len(more) > len(text) {
			count++
		}
	}
	if count < 1000 {
		t.Errorf("%d sources with more gaps", count)
	}
}

// newGap returns a gap after which a token may begin, and which may follow the end of a token. (A remark that directly
// follows a `/` would begin with that.)
func (s *source) newGap() string {
	return pick(s, " ", "\t", "\n") + s.gap() + "\n"
}

// P5.5
func TestLawJoined(t *testing.T) {
	s := source(56)
	count := 0
	for range 4000 {
		one, two := s.tight(s.below(6))+pick(&s, "", "", "// a"), s.tight(s.below(6))
		first, _, err1 := lex.Scan(one)
		second, _, err2 := lex.Scan(two)
		if err1 != api.OK || err2 != api.OK {
			continue
		}
		want := first
		for _, token := range second {
			token.At += len(one) + 1
			want = append(want, token)
		}
		if got := scan(t, one+"\n"+two); !slices.Equal(got, want) {
			t.Fatalf("%q and %q: %v, want %v", one, two, got, want)
		}
		if len(first) > 0 && len(second) > 0 {
			count++
		}
	}
	if count < 1000 {
		t.Errorf("%d pairs of sources", count)
	}
}

// P5.6
func TestLawNumbers(t *testing.T) {
	s := source(57)
	changed := 0
	for range 5000 {
		left, right := s.some(pick(&s, digits, "01"), 1, 15), s.some(pick(&s, digits, "01"), 0, 15)
		want := scan(t, left+point(right))[0].Text
		if want != value(left+point(right)) || !rat.Is(want) {
			t.Fatalf("%s%s is %s", left, point(right), want)
		}
		longer := strings.Repeat("0", s.below(16-len(left))) + left
		further := right + strings.Repeat("0", s.below(16-len(right)))
		if got := scan(t, longer+point(further)); len(got) != 1 || got[0].Text != want {
			t.Fatalf("%s%s is %v, want %s", longer, point(further), got, want)
		}
		if longer != left && further != right {
			changed++
		}
	}
	if changed < 2000 {
		t.Errorf("%d numbers with more noughts", changed)
	}
}

// point returns the digits behind the point, with it, if there are any.
func point(digits string) string {
	if digits == "" {
		return ""
	}
	return "." + digits
}

package syntax_test

import (
	"strings"
	"testing"

	"linkwork/api"
	"linkwork/syntax"
)

func TestExprTrees(t *testing.T) {
	for text, want := range map[string]string{
		// what has no operator
		"0":                                      "0",
		"007":                                    "7",
		"1.50":                                   "3/2",
		"x":                                      "x",
		"x.y.z":                                  "x.y.z",
		"x[1]":                                   "x[1]",
		"x[i+1].y[2,3]":                          "x[add(i, 1)].y[2,3]",
		"x[if a then 1 else 2]":                  "x[if(a, 1, 2)]",
		"x[{1}]":                                 "x[list(1)]",
		"true":                                   "true",
		"false":                                  "false",
		"time":                                   "time",
		"initial()":                              "initial",
		"der(x)":                                 "der(x)",
		"der(x[1].y)":                            "der(x[1].y)",
		"pre(x.y)":                               "pre(x.y)",
		"sum(x)":                                 "sum(x)",
		"sum({1,2.5,size(x,1)})":                 "sum(list(1, 5/2, size(x, 1)))",
		"sum(if a then b else c)":                "sum(if(a, b, c))",
		"size(x.y,1+1)":                          "size(x.y, add(1, 1))",
		"sample(0,1/2)":                          "sample(0, div(1, 2))",
		"sample(a or b, not c)":                  "sample(or(a, b), not(c))",
		"{a}":                                    "list(a)",
		"{{1,2},{3,4}}":                          "list(list(1, 2), list(3, 4))",
		"{-a, not b, if a then b else c, a < b}": "list(neg(a), not(b), if(a, b, c), less(a, b))",
		"{1,2,3,4,5,6,7,8,9,10,11,12}":           "list(1, 2, 3, 4, 5, 6, 7, 8, 9, 10, 11, 12)",
		"(a)":                                    "a",
		"((a))":                                  "a",
		"(x).y":                                  "",
		"((1))+2":                                "add(1, 2)",

		// operators
		"a or b":            "or(a, b)",
		"a and b":           "and(a, b)",
		"a < b":             "less(a, b)",
		"a <= b":            "atmost(a, b)",
		"a > b":             "more(a, b)",
		"a >= b":            "atleast(a, b)",
		"a == b":            "equal(a, b)",
		"a <> b":            "unequal(a, b)",
		"a + b":             "add(a, b)",
		"a - b":             "sub(a, b)",
		"a * b":             "mul(a, b)",
		"a / b":             "div(a, b)",
		"-a":                "neg(a)",
		"-2":                "neg(2)",
		"not a":             "not(a)",
		"a*b/c*d":           "mul(div(mul(a, b), c), d)",
		"a-b-c":             "sub(sub(a, b), c)",
		"a-(b-c)":           "sub(a, sub(b, c))",
		"a/(b*c)":           "div(a, mul(b, c))",
		"a+b-c+d":           "add(sub(add(a, b), c), d)",
		"a+(b+c)":           "add(a, add(b, c))",
		"a-b*c":             "sub(a, mul(b, c))",
		"a*b-c/d":           "sub(mul(a, b), div(c, d))",
		"(a+b)*c":           "mul(add(a, b), c)",
		"a or b and c or d": "or(or(a, and(b, c)), d)",

		// a minus at the beginning of a sum
		"-a*b+c":     "add(neg(mul(a, b)), c)",
		"-a-b-c":     "sub(sub(neg(a), b), c)",
		"(-a)*b":     "mul(neg(a), b)",
		"-(a+b)":     "neg(add(a, b))",
		"-(-a)":      "neg(neg(a))",
		"a*(-b)":     "mul(a, neg(b))",
		"a+(-b)":     "add(a, neg(b))",
		"-a < -b":    "less(neg(a), neg(b))",
		"a == -b+c":  "equal(a, add(neg(b), c))",
		"not -a < b": "not(less(neg(a), b))",
		"-a/b or -c": "or(neg(div(a, b)), neg(c))",

		// not
		"not a and b":      "and(not(a), b)",
		"not (a and b)":    "not(and(a, b))",
		"a and not b or c": "or(and(a, not(b)), c)",
		"not not a":        "not(not(a))",
		"not not a == b":   "not(not(equal(a, b)))",
		"not a < b and c":  "and(not(less(a, b)), c)",
		"(not a) == b":     "equal(not(a), b)",
		"a == (not b)":     "equal(a, not(b))",

		// comparisons
		"(a < b) == c":        "equal(less(a, b), c)",
		"a < b and c < d":     "and(less(a, b), less(c, d))",
		"a + b < c * d":       "less(add(a, b), mul(c, d))",
		"a == b or c <> d":    "or(equal(a, b), unequal(c, d))",
		"a + (b < c)":         "add(a, less(b, c))",
		"a < (b + c)":         "less(a, add(b, c))",
		"(a or b) and c":      "and(or(a, b), c)",
		"a or (b or c)":       "or(a, or(b, c))",
		"a and (b and c)":     "and(a, and(b, c))",
		"a and b and c":       "and(and(a, b), c)",
		"(a and b) or c":      "or(and(a, b), c)",
		"a < b + c or d":      "or(less(a, add(b, c)), d)",
		"a + b * c < d and e": "and(less(add(a, mul(b, c)), d), e)",

		// if
		"if a then b else c":                        "if(a, b, c)",
		"if a then b else c+d":                      "if(a, b, add(c, d))",
		"(if a then b else c)+d":                    "add(if(a, b, c), d)",
		"d+(if a then b else c)":                    "add(d, if(a, b, c))",
		"if a or b then c or d else e or f":         "if(or(a, b), or(c, d), or(e, f))",
		"if a then b else if c then d else e":       "if(a, b, if(c, d, e))",
		"if a then if b then c else d else e":       "if(a, if(b, c, d), e)",
		"if if a then b else c then d else e":       "if(if(a, b, c), d, e)",
		"if a then -b else -c":                      "if(a, neg(b), neg(c))",
		"not (if a then b else c)":                  "not(if(a, b, c))",
		"if a then b else c < d":                    "if(a, b, less(c, d))",
		"if a then (if b then c else d)+e else f*g": "if(a, add(if(b, c, d), e), mul(f, g))",
	} {
		got, err := syntax.Expr(text)
		if want == "" {
			if err != api.ErrForm {
				t.Errorf("Expr(%q): %d", text, err)
			}
			continue
		}
		if notation(got) != want || err != api.OK {
			t.Errorf("Expr(%q): %s, %d, want %s", text, notation(got), err, want)
		}
	}
}

// P6.3
func TestLawLevels(t *testing.T) {
	for one, level := range symbols {
		for two, other := range symbols {
			for _, first := range level {
				for _, second := range other {
					text := "a " + first[1] + " b " + second[1] + " c"
					want := first[0] + "(a, " + second[0] + "(b, c))"
					if one >= two {
						want = second[0] + "(" + first[0] + "(a, b), c)"
					}
					got, err := syntax.Expr(text)
					if one == 2 && two == 2 {
						if err != api.ErrForm {
							t.Errorf("Expr(%q): %d", text, err)
						}
					} else if notation(got) != want {
						t.Errorf("Expr(%q): %s, %d, want %s", text, notation(got), err, want)
					}
				}
			}
		}
		for _, op := range level {
			right := " " + op[1] + " b"
			for text, strong := range map[string]bool{"- a" + right: one == 4, "not a" + right: one >= 2, "if c then c else a" + right: true} {
				kid, _, _ := strings.Cut(text, " a ")
				outer := map[string]string{"-": "neg(", "not": "not(", "if c then c else": "if(c, c, "}[kid]
				want := outer + op[0] + "(a, b))"
				if !strong {
					want = op[0] + "(" + outer + "a), b)"
				}
				if got, err := syntax.Expr(text); notation(got) != want {
					t.Errorf("Expr(%q): %s, %d, want %s", text, notation(got), err, want)
				}
			}
		}
	}
}

func TestExprMalformed(t *testing.T) {
	for _, text := range []string{
		"", " ", "// a", "a b", "1 2", "a 1", "a;", "a, b", "1:2", "a = b", "a := b", `"a"`, `a + "b"`, `("a")`, `{"a"}`, `x["a"]`,
		"a +", "+ a", "a -", "* a", "a *", "a / / b", "a + + b", "a * -b", "a / -b", "a + -b", "a - -b", "- -a", "--a", "-", "- not a",
		"a < b < c", "a == b <> c", "a < b == c", "a <", "< a", "a <> = b", "a = < b", "a < > b", "a === b",
		"a < not b", "a == not b", "a + not b", "a * not b", "not", "not not", "a not", "a not b", "not or a",
		"a and", "and a", "a and and b", "a and or b", "or", "a or", "or a",
		"if", "if a", "if a then b", "if a then b else", "if a then else c", "if then b else c", "if a else c", "a then b else c",
		"if a then b else c else d", "if a then b then c else d", "if a then b else c end if",
		"a or if a then b else c", "a and if a then b else c", "not if a then b else c", "- if a then b else c", "a < if a then b else c",
		"a + if a then b else c", "a * if a then b else c", "if a then b else c)", "if (a) then (b) (c)",
		"(", ")", "()", "(a", "a)", "((a)", "(a))", "(a, b)", "(a b)", "[a]", "(a]", "{a)", "(a}",
		"{}", "{", "}", "{a", "a}", "{a,}", "{,a}", "{a,,b}", "{a b}", "{a;b}", "{1,2,3,4,5,6,7,8,9,10,11,12,13}",
		"{1}[1]", "{1}.x", "(x).y", "(x)[1]", "1[1]", "1.x", "x.1", "x.5", "1.", ".x", ".", "x.", "x..y", "x.(y)", "x.der(y)", "x.time", "x.end", "x.y z",
		"x[]", "x[", "x]", "x[1", "x[1,]", "x[,1]", "x[1,2,3]", "x[1][2]", "x[1 2]", "x[1:2]", "x[:]", "x[1).y", "x.[1]", "x[i = 1]",
		"f(x)", "f()", "x(1)", "1(2)", "x.f(1)", "abs(x)",
		"der", "der()", "der x", "der(", "der(x", "der)x(", "der[x]", "der(x, y)", "der(1)", "der(-x)", "der((x))", "der(x + y)", "der(der(x))", "der(time)",
		"pre", "pre()", "pre x", "pre(x", "pre(x, y)", "pre(true)", "pre(not x)", "pre((x))", "pre(pre(x))", "pre(x = y)",
		"sum", "sum()", "sum x", "sum(x", "sum(x, y)", "sum{x}",
		"size", "size()", "size(x)", "size(x,)", "size(,1)", "size(1, 2)", "size((x), 1)", "size({x}, 1)", "size(x, 1, 2)", "size(x 1)", "size(x, y",
		"sample", "sample()", "sample(1)", "sample(1,)", "sample(1, 2, 3)", "sample(1 2)", "sample(1, 2",
		"initial", "initial(", "initial)", "initial(x)", "initial[]", "initial.x", "time()", "time(x)", "true()", "false.x", "true[1]",
		"end", "model", "connect(a, b)", "reinit(x, 1)", "for", "in", "loop", "when", "then", "else", "equation", "extends", "flow", "input", "parameter",
		"redeclare", "replaceable", "discrete", "connector", "a end", "a equation",
		"a $ b", "a ! b", "a != b", "a ^ b", "a % b", "_a", "'a'", "1e3a_$", `"a`, "abcdefghijklmnopqrstu", "1234567890123456", "é", "a\x00",
		strings.Repeat("(", 1000) + "a" + strings.Repeat(")", 999), strings.Repeat("(", 2000), strings.Repeat("- ", 2000), strings.Repeat("not ", 2000),
		strings.Repeat("{", 2000), strings.Repeat("if ", 2000), strings.Repeat("x[", 1000), strings.Repeat("sum(", 1000), strings.Repeat("a+", 1000),
		strings.Repeat("not ", 100) + "a)", "{" + strings.Repeat("1,", 300) + "1}",
	} {
		if got, err := syntax.Expr(text); got.Op != "" || got.Text != "" || len(got.Kids) > 0 || err != api.ErrForm {
			t.Errorf("Expr(%.60q): %s, %d", text, notation(got), err)
		}
	}
}

func TestExprLimits(t *testing.T) {
	for _, c := range []struct {
		text string
		err  api.Errno
	}{
		{strings.Repeat("not ", 23) + "true", api.OK},
		{strings.Repeat("not ", 24) + "true", api.ErrSize},
		{strings.Repeat("not ", 22) + "a", api.OK}, // a ref has parts
		{strings.Repeat("not ", 23) + "a", api.ErrSize},
		{"1" + strings.Repeat("+1", 23), api.OK},
		{"1" + strings.Repeat("+1", 24), api.ErrSize},
		{"a" + strings.Repeat("*a", 22), api.OK},
		{"a" + strings.Repeat("*a", 23), api.ErrSize},
		{"a" + strings.Repeat("*a", 999), api.ErrSize},
		{strings.Repeat("(", 999) + "a" + strings.Repeat(")", 999), api.OK},
		{strings.Repeat("{", 23) + "1" + strings.Repeat("}", 23), api.OK},
		{strings.Repeat("{", 24) + "1" + strings.Repeat("}", 24), api.ErrSize},
		{"x" + strings.Repeat(".x", 198), api.OK},
		{"x" + strings.Repeat(".x", 199), api.ErrSize},
		{strings.Repeat("x[", 11) + "1" + strings.Repeat("]", 11), api.OK},
		{strings.Repeat("x[", 12) + "1" + strings.Repeat("]", 12), api.ErrSize},
		{bareText(sized(200)), api.OK},
		{bareText(sized(201)), api.ErrSize},
		{"not " + bareText(sized(199)), api.OK},
		{"not " + bareText(sized(200)), api.ErrSize},
		{"a" + strings.Repeat(" ", 7999), api.OK},
		{"a" + strings.Repeat(" ", 8000), api.ErrSize},
		{"+" + strings.Repeat(" ", 8000), api.ErrSize},
		{strings.Repeat("a ", 2000), api.ErrForm},
		{strings.Repeat("a ", 2001), api.ErrSize},
		{"$" + strings.Repeat("a ", 2001), api.ErrForm},
	} {
		got, err := syntax.Expr(c.text)
		if err != c.err || err != api.OK && notation(got) != "" {
			t.Errorf("Expr(%.60q ..): %s, %d, want %d", c.text, notation(got), err, c.err)
		}
	}
}

func TestShow(t *testing.T) {
	a, b, c := ref("a"), ref("b"), ref("c")
	cond := node("if", a, b, c)
	for _, x := range []struct {
		tree api.Tree
		want string
	}{
		{leaf("num", "5/2"), "2.5"},
		{leaf("initial", ""), "initial ( )"},
		{leaf("time", ""), "time"},
		{ref("a.b"), "a . b"},
		{node("ref", api.Tree{Op: "part", Text: "x", Kids: []api.Tree{node("add", a, b), cond}}, leaf("part", "y")),
			"x [ a + b , if a then b else c ] . y"},
		{node("der", ref("a.b")), "der ( a . b )"},
		{node("pre", a), "pre ( a )"},
		{node("sum", node("add", a, b)), "sum ( a + b )"},
		{node("size", a, cond), "size ( a , if a then b else c )"},
		{node("sample", leaf("num", "0"), node("or", a, b)), "sample ( 0 , a or b )"},
		{node("list", cond, node("neg", a), node("list", b)), "{ if a then b else c , - a , { b } }"},

		{node("add", node("add", a, b), c), "a + b + c"},
		{node("add", a, node("add", b, c)), "a + ( b + c )"},
		{node("sub", a, node("add", b, c)), "a - ( b + c )"},
		{node("mul", a, node("add", b, c)), "a * ( b + c )"},
		{node("mul", node("sub", a, b), c), "( a - b ) * c"},
		{node("div", node("mul", a, b), c), "a * b / c"},
		{node("div", a, node("div", b, c)), "a / ( b / c )"},
		{node("add", a, node("mul", b, c)), "a + b * c"},
		{node("or", node("or", a, b), c), "a or b or c"},
		{node("or", a, node("or", b, c)), "a or ( b or c )"},
		{node("and", node("or", a, b), c), "( a or b ) and c"},
		{node("and", a, node("and", b, c)), "a and ( b and c )"},
		{node("or", node("and", a, b), c), "a and b or c"},
		{node("less", node("less", a, b), c), "( a < b ) < c"},
		{node("equal", a, node("unequal", b, c)), "a == ( b <> c )"},
		{node("more", node("add", a, b), node("neg", c)), "a + b > - c"},
		{node("add", node("less", a, b), c), "( a < b ) + c"},
		{node("atmost", node("or", a, b), c), "( a or b ) <= c"},

		{node("neg", node("mul", a, b)), "- a * b"},
		{node("neg", node("div", a, b)), "- a / b"},
		{node("neg", node("add", a, b)), "- ( a + b )"},
		{node("neg", node("neg", a)), "- ( - a )"},
		{node("neg", node("not", a)), "- ( not a )"},
		{node("neg", node("less", a, b)), "- ( a < b )"},
		{node("add", node("neg", a), b), "- a + b"},
		{node("sub", a, node("neg", b)), "a - ( - b )"},
		{node("mul", node("neg", a), b), "( - a ) * b"},
		{node("mul", a, node("neg", b)), "a * ( - b )"},
		{node("atleast", node("neg", a), node("neg", b)), "- a >= - b"},

		{node("not", node("not", a)), "not not a"},
		{node("not", node("less", a, b)), "not a < b"},
		{node("not", node("and", a, b)), "not ( a and b )"},
		{node("not", node("neg", a)), "not - a"},
		{node("and", node("not", a), node("not", b)), "not a and not b"},
		{node("equal", node("not", a), b), "( not a ) == b"},
		{node("equal", a, node("not", b)), "a == ( not b )"},

		{node("if", cond, cond, cond), "if if a then b else c then if a then b else c else if a then b else c"},
		{node("if", node("or", a, b), node("neg", a), node("not", b)), "if a or b then - a else not b"},
		{node("or", cond, a), "( if a then b else c ) or a"},
		{node("or", a, cond), "a or ( if a then b else c )"},
		{node("not", cond), "not ( if a then b else c )"},
		{node("neg", cond), "- ( if a then b else c )"},
		{node("mul", a, cond), "a * ( if a then b else c )"},
		{node("less", cond, a), "( if a then b else c ) < a"},
	} {
		if got, err := syntax.Show(x.tree); got != x.want || err != api.OK {
			t.Errorf("Show(%s): %q, %d, want %q", notation(x.tree), got, err, x.want)
		}
	}
}

// The greatest expressions are not too long for a text.
func TestShowLong(t *testing.T) {
	long := leaf("num", "999999999999999999999999999999/1000000000000000")
	minus := leaf("true", "")
	for range 23 {
		minus = node("neg", minus)
	}
	words := api.Tree{Op: "ref"}
	for range 199 {
		words.Kids = append(words.Kids, leaf("part", "abcdefghijklmnopqrst"))
	}
	numbers := sized(200)
	var put func(list []api.Tree)
	put = func(list []api.Tree) {
		for i := range list {
			if list[i].Op == "num" {
				list[i] = long
			}
			put(list[i].Kids)
		}
	}
	put(numbers.Kids)
	for _, x := range []api.Tree{numbers, minus, words} {
		text, err := syntax.Show(x)
		if err != api.OK {
			t.Errorf("Show(%.60s): %d", notation(x), err)
		}
		if again, err := syntax.Expr(text); notation(again) != notation(x) {
			t.Errorf("Expr(%.60s): %d", text, err)
		}
	}
}

// changed returns tokens with some changes.
func (s *source) changed(tokens []api.Token, others []api.Token, most int) []api.Token {
	tokens = append([]api.Token(nil), tokens...)
	for range 1 + s.below(most) {
		at := s.below(len(tokens) + 1)
		switch s.below(4) {
		case 0:
			tokens = append(tokens[:at:at], append([]api.Token{pick(s, others...)}, tokens[at:]...)...)
		case 1:
			if at < len(tokens) {
				tokens[at] = pick(s, others...)
			}
		case 2:
			if at < len(tokens) {
				tokens = append(tokens[:at:at], tokens[at+1:]...)
			}
		default:
			if to := s.below(len(tokens) + 1); at < len(tokens) && to < len(tokens) {
				tokens[at], tokens[to] = tokens[to], tokens[at]
			}
		}
	}
	return tokens
}

// textOf writes tokens with blanks between.
func textOf(tokens []api.Token) string {
	var texts []string
	for _, token := range tokens {
		texts = append(texts, tokenText(token))
	}
	return strings.Join(texts, " ")
}

// Expr does what the second way to expressions does.
func TestExprAsRuled(t *testing.T) {
	s := source(61)
	others := scan(t, `a b 1 ( ) [ ] { } , . - + * < == = ; "s" not and or if then else der pre sum size sample initial time true end`)
	fine, bad := 0, 0
	for range 30000 {
		x := s.expr(s.below(5))
		shown, err := syntax.Show(x)
		if err != api.OK {
			t.Fatalf("Show(%s): %d", notation(x), err)
		}
		tokens := scan(t, shown)
		if s.below(3) == 0 {
			tokens = scan(t, full(x))
		}
		for _, list := range [][]api.Token{tokens, s.changed(tokens, others, 3), s.changed(tokens[:min(len(tokens), 9)], others, 3)} {
			text, want := textOf(list), ruled(list)
			got, err := syntax.Expr(text)
			if err == api.ErrSize {
				continue
			}
			if notation(got) != want || (err == api.OK) != (want != "") || err != api.OK && err != api.ErrForm {
				t.Fatalf("Expr(%q): %s, %d, want %s", text, notation(got), err, want)
			}
			if err == api.OK {
				fine++
			} else {
				bad++
			}
		}
	}
	if fine < 30000 || bad < 30000 {
		t.Errorf("%d expressions, %d that are none", fine, bad)
	}
}

// No pair of parentheses in the text of an expression can be left out.
func TestShowFewParentheses(t *testing.T) {
	s := source(62)
	pairs := 0
	for range 12000 {
		x := s.expr(1 + s.below(4))
		shown, _ := syntax.Show(x)
		words := strings.Split(shown, " ")
		var open []int
		for i, word := range words {
			switch word {
			case "(":
				open = append(open, i)
			case ")":
				from := open[len(open)-1]
				open = open[:len(open)-1]
				if from > 0 && strings.Contains(" initial der pre sum size sample ", " "+words[from-1]+" ") {
					continue
				}
				pairs++
				less := strings.Join(words[:from], " ") + " " + strings.Join(words[from+1:i], " ") + " " + strings.Join(words[i+1:], " ")
				if again, err := syntax.Expr(less); err == api.OK && notation(again) == notation(x) {
					t.Fatalf("%q, and %q is the same", shown, less)
				}
			}
		}
	}
	if pairs < 3000 {
		t.Errorf("%d pairs", pairs)
	}
}

func TestIsExpr(t *testing.T) {
	a, x := ref("a"), leaf("num", "1")
	part := func(kids ...api.Tree) api.Tree {
		return node("ref", api.Tree{Op: "part", Text: "p", Kids: kids})
	}
	text := func(op string, kids ...api.Tree) api.Tree {
		return api.Tree{Op: op, Text: "a", Kids: kids}
	}
	number := func(s string) api.Tree { return leaf("num", s) }
	for _, tree := range []api.Tree{
		number("0"), number("999999999999999"), number("1/2"), a, ref("a.b"), part(x), part(a, x), part(part(part(x))),
		leaf("true", ""), leaf("false", ""), leaf("time", ""), leaf("initial", ""), node("der", a), node("pre", part(x)), node("sum", x),
		node("size", a, x), node("sample", a, x), node("list", a), node("neg", x), node("not", x), node("if", x, a, x), node("unequal", a, a),
		sized(13), sized(200), deep(24), {Op: "true", Kids: []api.Tree{}},
	} {
		if _, err := syntax.Show(tree); !syntax.IsExpr(tree) || err != api.OK {
			t.Errorf("%s: IsExpr %t, Show %d", notation(tree), syntax.IsExpr(tree), err)
		}
	}
	wrong := []api.Tree{
		{}, node("nothing"), node("var", x), node("equal"), leaf("ref", "a"), leaf("part", "a"), leaf("string", "a"), leaf("string", ""), text("true"), text("time"),
		number(""), number("-1"), number("01"), number("1/3"), number("2/4"), number("0.5"), number("1000000000000000"), number("a"), node("num"), text("num"),
		{Op: "num", Text: "1", Kids: []api.Tree{x}},
		node("ref"), node("ref", a), node("ref", x), text("ref", leaf("part", "a")), node("ref", leaf("part", "")), ref("end"), ref("1"), ref("a b"), ref("a[1]"),
		ref("a..b"), ref("abcdefghijklmnopqrstu"), ref("é"), part(x, x, x), part(leaf("part", "a")), part(leaf("string", "a")), part(node("add", x)),
		node("ref", leaf("part", "a"), a), node("ref", leaf("part", "a"), leaf("string", "a")),
		node("der"), node("der", x), node("der", a, a), node("der", leaf("part", "a")), text("der", a), node("der", node("ref")), node("der", node("der", a)),
		node("pre"), node("pre", x), node("pre", a, a), text("pre", a), node("sum"), node("sum", x, x), text("sum", x), node("sum", leaf("string", "a")),
		node("size"), node("size", a), node("size", x, x), node("size", a, a, a), text("size", a, x), node("size", a, leaf("part", "a")),
		node("sample"), node("sample", x), node("sample", x, x, x), text("sample", x, x), node("initial", x), text("initial"), node("time", x), node("true", x),
		node("list"), text("list", x), node("list", leaf("string", "a")), node("list", x, x, x, x, x, x, x, x, x, x, x, x, x),
		node("neg"), node("neg", x, x), text("neg", x), node("not"), node("not", x, x), text("not", x), node("neg", node("nothing")),
		node("if"), node("if", x, x), node("if", x, x, x, x), text("if", x, x, x), node("if", x, x, leaf("string", "a")),
	}
	for _, level := range symbols {
		for _, s := range level {
			wrong = append(wrong, node(s[0]), node(s[0], x), node(s[0], x, x, x), text(s[0], x, x), node(s[0], x, leaf("part", "a")), node(s[0], node(""), x))
		}
	}
	for _, tree := range wrong {
		got, err := syntax.Show(tree)
		if syntax.IsExpr(tree) || got != "" || err != api.ErrForm {
			t.Errorf("%s: IsExpr %t, Show %q, %d", notation(tree), syntax.IsExpr(tree), got, err)
		}
	}
	for _, tree := range []api.Tree{sized(201), deep(25), node("nothing", sized(200)), node("string", deep(24)), endless(), node("list", endless(), x)} {
		got, err := syntax.Show(tree)
		if syntax.IsExpr(tree) || got != "" || err != api.ErrSize {
			t.Errorf("too large: IsExpr %t, Show %q, %d", syntax.IsExpr(tree), got, err)
		}
	}
}

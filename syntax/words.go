package syntax

import (
	"slices"

	"linkwork/api"
)

// The Ops of trees that expressions of systems do not have.
const (
	opRef    = "ref"
	opPart   = "part"
	opDer    = "der"
	opSum    = "sum"
	opSize   = "size"
	opList   = "list"
	opString = "string"
)

// The kinds of statements. All but the first one are the keywords that they begin with.
const (
	kindEqual   = "equal"
	kindConnect = "connect"
	kindFor     = "for"
	kindIf      = "if"
	kindWhen    = "when"
	kindReinit  = "reinit"
)

// maxIndices is the greatest number of expressions between the brackets of a part, or of a component.
const maxIndices = api.MaxDims

// section is where statements stand.
type section int

const (
	inEqs   section = iota
	inInits         // those of initial equations
	inActs          // those of a when
)

// allows reports whether statements of a kind may stand there.
func (in section) allows(kind string) bool {
	switch in {
	case inInits:
		return slices.Contains([]string{kindEqual, kindFor, kindIf}, kind)
	case inActs:
		return slices.Contains([]string{kindEqual, kindReinit}, kind)
	}
	return slices.Contains([]string{kindEqual, kindConnect, kindFor, kindIf, kindWhen}, kind)
}

// prefixes returns the prefixes of components, which are keywords.
func prefixes() []string {
	return []string{"parameter", "discrete", "input", "flow"}
}

func isClassKind(text string) bool {
	return text == "model" || text == "connector"
}

// The levels of operators, the weakest ones first.
const (
	ifLevel = iota
	orLevel
	andLevel
	notLevel
	comparisonLevel
	sumLevel
	productLevel
	restLevel // what has no operator outside of brackets
)

// infix is an operator that stands between its two kids.
type infix struct {
	op, symbol string
}

// infixes returns the operators of a level that stand between their kids.
func infixes(level int) []infix {
	switch level {
	case orLevel:
		return []infix{{api.Or, "or"}}
	case andLevel:
		return []infix{{api.And, "and"}}
	case comparisonLevel:
		return []infix{{api.Less, "<"}, {api.AtMost, "<="}, {api.More, ">"}, {api.AtLeast, ">="},
			{api.Equal, "=="}, {api.Unequal, "<>"}}
	case sumLevel:
		return []infix{{api.Add, "+"}, {api.Sub, "-"}}
	case productLevel:
		return []infix{{api.Mul, "*"}, {api.Div, "/"}}
	}
	return nil
}

// levelOf returns the level of an Op, and, if it stands between its kids, its symbol.
func levelOf(op string) (level int, symbol string) {
	for level := range restLevel {
		for _, between := range infixes(level) {
			if between.op == op {
				return level, between.symbol
			}
		}
	}
	switch op {
	case api.If:
		return ifLevel, ""
	case api.Not:
		return notLevel, ""
	case api.Neg:
		return sumLevel, ""
	}
	return restLevel, ""
}

// callOf returns the number of kids of an Op that is written as a keyword with its kids in parentheses, and how many
// of them, the first ones, are refs; false if it is no such Op.
func callOf(op string) (kids, refs int, ok bool) {
	switch op {
	case api.Initial:
		return 0, 0, true
	case opDer, api.Pre:
		return 1, 1, true
	case opSum:
		return 1, 0, true
	case opSize:
		return 2, 1, true
	case api.Sample:
		return 2, 0, true
	}
	return 0, 0, false
}

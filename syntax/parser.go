package syntax

import (
	"linkwork/api"
	"linkwork/lex"
)

// parser has the tokens of a source that are not read yet.
type parser struct {
	tokens []api.Token
}

// malformed is what a parser panics with where a source is not as a rule says.
type malformed struct{}

// parsed returns what a source is, all of it, by a rule; ErrForm if it is no such thing.
func parsed[T any](text string, rule func(p *parser) T) (result T, err api.Errno) {
	tokens, _, err := lex.Scan(text)
	if err != api.OK {
		return result, err
	}
	defer func() {
		if recover() != nil {
			var none T
			result, err = none, api.ErrForm
		}
	}()
	p := &parser{tokens}
	result = rule(p)
	if len(p.tokens) > 0 {
		panic(malformed{})
	}
	return result, api.OK
}

// next returns the next token, of no kind at the end of the source.
func (p *parser) next() api.Token {
	if len(p.tokens) == 0 {
		return api.Token{}
	}
	return p.tokens[0]
}

// at reports whether the next tokens are these keywords and symbols.
func (p *parser) at(texts ...string) bool {
	if len(p.tokens) < len(texts) {
		return false
	}
	for i, text := range texts {
		token := p.tokens[i]
		if token.Kind != api.TokKey && token.Kind != api.TokSymbol || token.Text != text {
			return false
		}
	}
	return true
}

// take reads these keywords and symbols; false if they are not the next tokens.
func (p *parser) take(texts ...string) bool {
	if !p.at(texts...) {
		return false
	}
	p.tokens = p.tokens[len(texts):]
	return true
}

// need reads these keywords and symbols.
func (p *parser) need(texts ...string) {
	if !p.take(texts...) {
		panic(malformed{})
	}
}

// text reads a token of a kind.
func (p *parser) text(kind int) string {
	token := p.next()
	if token.Kind != kind {
		panic(malformed{})
	}
	p.tokens = p.tokens[1:]
	return token.Text
}

func (p *parser) word() string {
	return p.text(api.TokWord)
}

// listed reads parts, one at least, with commas between.
func listed[T any](p *parser, part func(p *parser) T) []T {
	list := []T{part(p)}
	for p.take(",") {
		list = append(list, part(p))
	}
	return list
}

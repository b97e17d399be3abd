package measure

import (
	"slices"
	"strconv"

	"linkwork/api"
	"linkwork/exact"
)

// relation is a product of powers that is without a unit: its exponents, which are integers, by columns.
type relation []exact.Number

// ledger has what follows for units from claims that were met, as relations. Each of these has a leading column, which
// no other one of them has, and in which all have the same exponent. So each exponent is a minor of those that were
// demanded, by Cramer's rule: all stay integers that are not longer than these minors, and no divisors of them need
// to be found.
type ledger struct {
	columns
	relations []relation
	leads     []int
	scale     exact.Number // the exponent in the leading columns
}

// ledgerOf returns the ledger of a valid system, or the name of the first claim that contradicts those before it.
func ledgerOf(s api.System) (*ledger, string) {
	l := &ledger{columns: columnsOf(s), scale: number("1")}
	for _, claim := range l.claims(s) {
		if !l.meet(claim.demands) {
			return nil, claim.name
		}
	}
	return l, ""
}

// meet adds what a claim demands; false if there are no units that meet it, too.
func (l *ledger) meet(claim func(demand demander)) bool {
	met := true
	claim(func(p powers) {
		if !l.add(p) {
			met = false
		}
	})
	return met
}

// add adds a product that is demanded to be without a unit; false if it has one, whatever the free columns are.
func (l *ledger) add(p powers) bool {
	rest := l.rest(p)
	lead := rest.lead()
	if lead < 0 {
		return true
	}
	if lead >= l.free && len(l.valueOf(rest)) > 0 {
		return false
	}
	for _, r := range l.relations {
		l.clear(r, rest, lead)
	}
	l.relations = append(l.relations, rest)
	l.leads = append(l.leads, lead)
	l.scale = rest[lead]
	return true
}

// rest returns a product to the power of the scale, without leading columns, whose units it is known to replace.
func (l *ledger) rest(p powers) relation {
	rest := make(relation, len(p))
	for i, exponent := range p {
		if exponent != 0 {
			rest[i] = l.scale.Times(whole(exponent))
		}
	}
	for i, r := range l.relations {
		exponent := p[l.leads[i]]
		if exponent == 0 {
			continue
		}
		for j, less := range r {
			if less.Sign() != 0 {
				rest[j] = rest[j].Minus(less.Times(whole(exponent)))
			}
		}
	}
	return rest
}

// clear takes a column that a new relation leads out of another one, which gets the scale that it will have.
func (l *ledger) clear(r, next relation, lead int) {
	factor := r[lead]
	for i, less := range next {
		if r[i].Sign() != 0 || less.Sign() != 0 {
			r[i] = r[i].Times(next[lead]).Minus(less.Times(factor)).Part(l.scale)
		}
	}
}

// lead returns the first column that a relation has; -1 if it has none.
func (r relation) lead() int {
	return slices.IndexFunc(r, func(exponent exact.Number) bool { return exponent.Sign() != 0 })
}

// valueOf returns the unit that a product of given units is.
func (l *ledger) valueOf(r relation) exponents {
	value := make(exponents)
	for i, unit := range l.given {
		if exponent := r[l.free+i]; exponent.Sign() != 0 {
			value.multiply(unit, exponent)
		}
	}
	return value
}

// known returns the unit that powers have; false if they have not the same one in all units that meet the claims.
func (l *ledger) known(p powers) (exponents, bool) {
	if p == nil {
		return nil, false
	}
	rest := l.rest(p)
	if lead := rest.lead(); lead >= 0 && lead < l.free {
		return nil, false
	}
	root, _ := number("1").Over(l.scale)
	unit := make(exponents)
	unit.multiply(l.valueOf(rest), root)
	return unit, true
}

// text returns the text of the unit that powers have, which is empty if they have not the same one in all units that
// meet the claims.
func (l *ledger) text(p powers) (string, api.Errno) {
	unit, ok := l.known(p)
	if !ok {
		return "", api.OK
	}
	return unit.text()
}

func whole(n int) exact.Number {
	return number(strconv.Itoa(n))
}

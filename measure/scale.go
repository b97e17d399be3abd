package measure

import (
	"maps"
	"strconv"

	"linkwork/api"
	"linkwork/exact"
	"linkwork/rat"
)

const (
	maxPower  = 100 // the greatest exponent that a variable's unit may have to be scaled
	powerBits = 7   // bits of such an exponent, also of one that is less by an Order
)

// scaling is what values are multiplied by, by the symbols of their units.
type scaling map[string]exact.Number

// checkScaling returns why these are no symbols with their factors.
func checkScaling(symbols, factors []string) api.Errno {
	for i, symbol := range symbols {
		if !isSymbol(symbol) || i > 0 && symbols[i-1] >= symbol {
			return api.ErrForm
		}
	}
	for _, factor := range factors {
		if !rat.Is(factor) {
			return api.ErrForm
		}
	}
	if len(symbols) != len(factors) {
		return api.ErrArg
	}
	for _, factor := range factors {
		if number(factor).Sign() <= 0 {
			return api.ErrArg
		}
	}
	return api.OK
}

func scalingOf(symbols, factors []string) scaling {
	by := make(scaling)
	for i, symbol := range symbols {
		by[symbol] = number(factors[i])
	}
	return by
}

// bindsVariables reports whether all that is bound are variables of a system.
func bindsVariables(s api.System, env api.Env) bool {
	names := make(map[string]bool)
	for _, v := range s.Vars {
		names[v.Name] = true
	}
	for _, b := range env.Binds {
		if !names[b.Use.Name] {
			return false
		}
	}
	return true
}

// wholeUnit is a unit that values can be scaled by: its exponents, by its symbols.
type wholeUnit map[string]int

// boundUnits returns the units of the Number variables that are bound, by their names; false if there are none, since
// claims contradict each other, or if values in one of them cannot be scaled.
func boundUnits(s api.System, env api.Env) (map[string]wholeUnit, bool) {
	l, contradiction := ledgerOf(s)
	if contradiction != "" {
		return nil, false
	}
	units := make(map[string]wholeUnit)
	for _, b := range env.Binds {
		name := b.Use.Name
		if _, measured := l.of[name]; !measured || units[name] != nil {
			continue
		}
		unit, ok := l.known(l.variable(name, 0))
		if !ok {
			return nil, false
		}
		if units[name], ok = unit.whole(); !ok {
			return nil, false
		}
	}
	return units, true
}

// whole returns a unit that values can be scaled by; false if an exponent is no integer, too great or too small.
func (unit exponents) whole() (wholeUnit, bool) {
	whole := make(wholeUnit)
	for symbol, exponent := range unit {
		text, _ := exponent.Text()
		power, err := strconv.Atoi(text)
		if err != nil || power < -maxPower || power > maxPower {
			return nil, false
		}
		whole[symbol] = power
	}
	return whole, true
}

// derived returns the unit of a derivative.
func (unit wholeUnit) derived(order int) wholeUnit {
	unit = maps.Clone(unit)
	unit[second] -= order
	return unit
}

// environment returns an environment whose variables have units, scaled.
func (by scaling) environment(env api.Env, units map[string]wholeUnit) (api.Env, api.Errno) {
	time, err := by.scaled(env.Time, wholeUnit{second: 1})
	if err != api.OK {
		return api.Env{}, err
	}
	to := api.Env{Time: time, Initial: env.Initial}
	for _, b := range env.Binds {
		if unit, ok := units[b.Use.Name]; ok {
			if b.Value, err = by.scaled(b.Value, unit.derived(b.Use.Order)); err != api.OK {
				return api.Env{}, err
			}
		}
		to.Binds = append(to.Binds, b)
	}
	return to, api.OK
}

// scaled returns a value in a unit, scaled: what is a truth, or 0, stays.
func (by scaling) scaled(text string, unit wholeUnit) (string, api.Errno) {
	value, ok := exact.Read(text)
	if !ok || value.Sign() == 0 {
		return text, api.OK
	}
	factor, ok := by.product(unit)
	if !ok {
		return "", api.ErrSize
	}
	return value.Times(factor).Text()
}

// product returns the product of the factors to their powers; false if it has so many digits that no number times it
// is a number that can be returned. All powers are built at once, from their highest bits on: what is found on the way
// is a root of the product but for one of each factor, at most, so that it is not much longer than the product.
func (by scaling) product(powers wholeUnit) (exact.Number, bool) {
	one := number("1")
	total := one
	for bit := powerBits - 1; bit >= 0; bit-- {
		total = total.Times(total)
		for symbol, power := range powers {
			factor, ok := by[symbol]
			if power < 0 && ok {
				factor, _ = one.Over(factor)
				power = -power
			}
			if ok && power>>bit&1 == 1 {
				total = total.Times(factor)
			}
		}
		if !total.MayHave((2 + len(powers)) * api.MaxDigits) {
			return exact.Number{}, false
		}
	}
	return total, true
}

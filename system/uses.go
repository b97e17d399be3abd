package system

import (
	"cmp"
	"slices"
	"strings"

	"linkwork/api"
)

// useOf returns the use that a var or a pre is.
func useOf(e api.Expr) api.Use {
	return api.Use{Name: e.Text, Order: e.Order, Pre: e.Op == api.Pre}
}

// compareUses compares uses by Name, then those without Pre before those with it, then by Order.
func compareUses(a, b api.Use) int {
	if order := strings.Compare(a.Name, b.Name); order != 0 {
		return order
	}
	if a.Pre != b.Pre {
		if b.Pre {
			return -1
		}
		return 1
	}
	return cmp.Compare(a.Order, b.Order)
}

func compareBinds(a, b api.Bind) int {
	return compareUses(a.Use, b.Use)
}

// findUse returns where the bind of a use is, or would be, and whether it is there.
func findUse(binds []api.Bind, u api.Use) (int, bool) {
	return slices.BinarySearchFunc(binds, u, func(b api.Bind, u api.Use) int {
		return compareUses(b.Use, u)
	})
}

// usesIn returns the different uses in expressions, in order.
func usesIn(list ...api.Expr) []api.Use {
	var uses []api.Use
	var gather func(e api.Expr)
	gather = func(e api.Expr) {
		if e.Op == api.Ref || e.Op == api.Pre {
			uses = append(uses, useOf(e))
		}
		for _, kid := range e.Kids {
			gather(kid)
		}
	}
	for _, e := range list {
		gather(e)
	}
	slices.SortFunc(uses, compareUses)
	return slices.Compact(uses)
}

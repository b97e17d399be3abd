package connect

import (
	"slices"
	"strings"

	"linkwork/api"
	"linkwork/spelling"
)

// equations returns the equations of a set, in any order; false if the fields are malformed, or a name would be none.
func equations(set []api.End, fields []api.Field) ([]api.Eq, bool) {
	if !areFields(fields) {
		return nil, false
	}
	var list []api.Eq
	for _, f := range fields {
		var part []api.Eq
		if f.Flow {
			part = flows(set, f.Name)
		} else {
			part = potentials(set, f.Name)
		}
		if !haveNames(part, set, f.Name) {
			return nil, false
		}
		list = append(list, part...)
	}
	return list, true
}

// potentials returns the equations of a field without Flow.
func potentials(set []api.End, field string) []api.Eq {
	var list []api.Eq
	for _, x := range set[1:] {
		list = append(list, api.Eq{Name: equationName(x, field), Left: variable(set[0], field), Right: variable(x, field)})
	}
	return list
}

// flows returns the equation of a field with Flow, if there is one.
func flows(set []api.End, field string) []api.Eq {
	first := set[0]
	if len(set) == 1 && first.Outside {
		return nil
	}
	sum := inflow(first, field)
	for _, x := range set[1:] {
		sum = api.Expr{Op: api.Add, Kids: []api.Expr{sum, inflow(x, field)}}
	}
	return []api.Eq{{Name: equationName(first, field), Left: sum, Right: api.Expr{Op: api.Num, Text: "0"}}}
}

// inflow returns what an end adds to the sum of a field with Flow.
func inflow(x api.End, field string) api.Expr {
	if x.Outside {
		return api.Expr{Op: api.Neg, Kids: []api.Expr{variable(x, field)}}
	}
	return variable(x, field)
}

func variable(x api.End, field string) api.Expr {
	return api.Expr{Op: api.Ref, Text: variableName(x, field)}
}

func variableName(x api.End, field string) string {
	return x.Path + "." + field
}

// equationName returns the name of the equation of a field that is named for an end.
func equationName(x api.End, field string) string {
	name := "c'" + variableName(x, field)
	if x.Outside {
		name += ".o"
	}
	return name
}

// haveNames reports whether all names in the equations of a field are names. If there are any, the variables of all
// ends are in them.
func haveNames(list []api.Eq, set []api.End, field string) bool {
	for _, q := range list {
		if !spelling.IsName(q.Name) {
			return false
		}
	}
	for _, x := range set {
		if len(list) > 0 && !spelling.IsName(variableName(x, field)) {
			return false
		}
	}
	return true
}

// rising returns equations in the order of their Names; ErrName if two have the same one.
func rising(list []api.Eq) ([]api.Eq, api.Errno) {
	slices.SortFunc(list, func(a, b api.Eq) int { return strings.Compare(a.Name, b.Name) })
	for i := 1; i < len(list); i++ {
		if list[i-1].Name == list[i].Name {
			return nil, api.ErrName
		}
	}
	return list, api.OK
}

package rows

import (
	"slices"
	"strings"

	"linkwork/api"
	"linkwork/system"
)

// checkNumber returns why it is no expression of the system with the type number.
func checkNumber(s api.System, e api.Expr) api.Errno {
	t, err := system.Type(s, e)
	if err == api.OK && t != api.Number {
		return api.ErrType
	}
	return err
}

// checkEnv returns why an environment is not valid.
func checkEnv(env api.Env) api.Errno {
	_, err := system.Eval(api.System{}, api.Expr{Op: api.True}, env)
	return err
}

// isName reports whether it is a name: just names can be used.
func isName(name string) bool {
	_, err := system.Of(occurrence(api.Use{Name: name}))
	return err == api.OK
}

func every[T any](list []T, valid func(element T) bool) bool {
	for _, element := range list {
		if !valid(element) {
			return false
		}
	}
	return true
}

// variables returns the variables of a system by their names.
func variables(s api.System) map[string]api.Var {
	vars := make(map[string]api.Var)
	for _, v := range s.Vars {
		vars[v.Name] = v
	}
	return vars
}

// equations returns the equations of a valid system that have names; false if one of these is not there.
func equations(s api.System, names []string) ([]api.Eq, bool) {
	list := make([]api.Eq, len(names))
	for i, name := range names {
		at, found := slices.BinarySearchFunc(s.Eqs, name, func(q api.Eq, name string) int {
			return strings.Compare(q.Name, name)
		})
		if !found {
			return nil, false
		}
		list[i] = s.Eqs[at]
	}
	return list, true
}

// fitting returns an expression; ErrSize if it is too large.
func fitting(e api.Expr) (api.Expr, api.Errno) {
	if _, err := system.Of(e); err != api.OK {
		return api.Expr{}, err
	}
	return e, api.OK
}

package system

import (
	"strings"

	"linkwork/api"
	"linkwork/rat"
	"linkwork/spelling"
)

// scope is where expressions of a system belong: its variables and the operators, both by their names.
type scope struct {
	vars map[string]api.Var
	ops  map[string]operator
}

// checked returns the scope of a system, and the errors of Check.
func checked(s api.System) (scope, api.Errno) {
	if oversized(s) {
		return scope{}, api.ErrSize
	}
	in := scope{make(map[string]api.Var), operators()}
	for _, v := range s.Vars {
		in.vars[v.Name] = v
	}
	if !in.valid(s) {
		return scope{}, api.ErrForm
	}
	return in, api.OK
}

// checkedExpr returns the type of an expression, and the errors of Type that come after those of Check.
func (in scope) checkedExpr(e api.Expr) (int, api.Errno) {
	if _, ok := sizeOf(e); !ok {
		return 0, api.ErrSize
	}
	t, ok := in.typeOf(e)
	if !ok {
		return 0, api.ErrForm
	}
	return t, api.OK
}

func (in scope) hasVar(name string) bool {
	_, ok := in.vars[name]
	return ok
}

// valid reports whether a system, none of whose expressions is too large, is valid.
func (in scope) valid(s api.System) bool {
	return named(s.Vars, varName) && every(s.Vars, isVar) &&
		named(s.Eqs, eqName) && every(s.Eqs, in.isEq) &&
		named(s.Inits, eqName) && every(s.Inits, in.isEq) &&
		named(s.Whens, whenName) && every(s.Whens, in.isWhen) && assignsOnce(s.Whens)
}

// named reports whether all parts have names, which rise.
func named[T any](parts []T, name func(part T) string) bool {
	return every(parts, func(part T) bool { return spelling.IsName(name(part)) }) && rising(parts, byName(name))
}

// rising reports whether each part is greater than the one before it.
func rising[T any](parts []T, compare func(a, b T) int) bool {
	for i := 1; i < len(parts); i++ {
		if compare(parts[i-1], parts[i]) >= 0 {
			return false
		}
	}
	return true
}

// byName returns the comparison of parts by their names.
func byName[T any](name func(part T) string) func(a, b T) int {
	return func(a, b T) int {
		return strings.Compare(name(a), name(b))
	}
}

func every[T any](parts []T, valid func(part T) bool) bool {
	for _, part := range parts {
		if !valid(part) {
			return false
		}
	}
	return true
}

func varName(v api.Var) string {
	return v.Name
}

func eqName(q api.Eq) string {
	return q.Name
}

func whenName(w api.When) string {
	return w.Name
}

func actVar(a api.Act) string {
	return a.Var
}

func isTruth(text string) bool {
	return text == api.True || text == api.False
}

// isValue reports whether it is a value of a type.
func isValue(text string, t int) bool {
	if t == api.Truth {
		return isTruth(text)
	}
	return rat.Is(text)
}

// isVar reports whether all but the name of a variable is valid.
func isVar(v api.Var) bool {
	if v.Kind < api.Continuous || v.Kind > api.Input || v.Type < api.Number || v.Type > api.Truth {
		return false
	}
	if isDerivable(v) && v.Type != api.Number {
		return false
	}
	return hasValue(v) && hasStart(v) && hasUnit(v)
}

// isDerivable reports whether a variable has derivatives.
func isDerivable(v api.Var) bool {
	return v.Kind == api.Continuous || v.Kind == api.Input
}

func hasValue(v api.Var) bool {
	if v.Kind == api.Param {
		return isValue(v.Value, v.Type)
	}
	return v.Value == ""
}

func hasStart(v api.Var) bool {
	if v.Start == "" {
		return !v.Fixed
	}
	return (v.Kind == api.Continuous || v.Kind == api.Discrete) && isValue(v.Start, v.Type)
}

func hasUnit(v api.Var) bool {
	return v.Unit == "" || v.Type == api.Number && isUnit(v.Unit)
}

// isEq reports whether all but the name of an equation is valid.
func (in scope) isEq(q api.Eq) bool {
	return in.isOf(q.Left, api.Number) && in.isOf(q.Right, api.Number)
}

// isWhen reports whether all but the name of a When is valid by itself.
func (in scope) isWhen(w api.When) bool {
	return in.isOf(w.Cond, api.Truth) && len(w.Acts) > 0 && every(w.Acts, in.isAct) && distinct(w.Acts, actVar)
}

func (in scope) isAct(a api.Act) bool {
	v, ok := in.vars[a.Var]
	if !ok || !in.isOf(a.Value, v.Type) {
		return false
	}
	return a.Kind == api.Assign && v.Kind == api.Discrete || a.Kind == api.Reinit && v.Kind == api.Continuous
}

// assignsOnce reports whether no variable is assigned by more than one act.
func assignsOnce(whens []api.When) bool {
	var assigns []api.Act
	for _, w := range whens {
		for _, a := range w.Acts {
			if a.Kind == api.Assign {
				assigns = append(assigns, a)
			}
		}
	}
	return distinct(assigns, actVar)
}

// distinct reports whether no two parts have the same name.
func distinct[T any](parts []T, name func(part T) string) bool {
	seen := make(map[string]bool)
	for _, part := range parts {
		if seen[name(part)] {
			return false
		}
		seen[name(part)] = true
	}
	return true
}

// isOf reports whether it is an expression of the system with a type.
func (in scope) isOf(e api.Expr, t int) bool {
	found, ok := in.typeOf(e)
	return ok && found == t
}

// checkEnv returns why an environment is not valid.
func checkEnv(env api.Env) api.Errno {
	if len(env.Binds) > api.MaxBinds {
		return api.ErrSize
	}
	if !rat.Is(env.Time) || !every(env.Binds, isBind) || !rising(env.Binds, compareBinds) {
		return api.ErrForm
	}
	return api.OK
}

func isBind(b api.Bind) bool {
	return isUse(b.Use) && (isTruth(b.Value) || rat.Is(b.Value))
}

// isUse reports whether an environment may have a value for it.
func isUse(u api.Use) bool {
	return spelling.IsName(u.Name) && u.Order >= 0 && u.Order <= api.MaxOrder && (u.Order == 0 || !u.Pre)
}

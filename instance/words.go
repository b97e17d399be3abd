package instance

import "linkwork/api"

// The built-in classes, and the other words of sources that instances depend on.
const (
	classReal    = "Real"
	classInteger = "Integer"
	classBoolean = "Boolean"

	kindModel = "model"

	prefixParameter = "parameter"
	prefixDiscrete  = "discrete"
	prefixInput     = "input"
	prefixFlow      = "flow"

	attributeStart = "start"
	attributeFixed = "fixed"
	attributeUnit  = "unit"
)

// The Ops of trees for which package api has no name.
const (
	opRef    = "ref"
	opPart   = "part"
	opDer    = "der"
	opSum    = "sum"
	opSize   = "size"
	opList   = "list"
	opString = "string"
)

func isBuiltIn(class string) bool {
	return class == classReal || class == classInteger || class == classBoolean
}

// typeIn returns the type of the values of a built-in class.
func typeIn(class string) int {
	if class == classBoolean {
		return api.Truth
	}
	return api.Number
}

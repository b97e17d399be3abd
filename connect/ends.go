package connect

import (
	"cmp"
	"strings"

	"linkwork/api"
	"linkwork/spelling"
)

// compareEnds compares ends by Path; inside is before outside.
func compareEnds(a, b api.End) int {
	return cmp.Or(strings.Compare(a.Path, b.Path), compareTruths(a.Outside, b.Outside))
}

// compareTruths compares truths; false is before true.
func compareTruths(a, b bool) int {
	switch {
	case a == b:
		return 0
	case b:
		return -1
	}
	return 1
}

// areNamed reports whether the Paths of ends are names.
func areNamed(ends ...api.End) bool {
	for _, x := range ends {
		if !spelling.IsName(x.Path) {
			return false
		}
	}
	return true
}

// isSet reports whether ends may be those of a set: there are some, with names, in order.
func isSet(ends []api.End) bool {
	for i := 1; i < len(ends); i++ {
		if compareEnds(ends[i-1], ends[i]) >= 0 {
			return false
		}
	}
	return len(ends) > 0 && areNamed(ends...)
}

package connect

import (
	"cmp"
	"slices"
	"strings"

	"linkwork/api"
	"linkwork/spelling"
)

// areFields reports whether the names of fields are words, none of which is there twice.
func areFields(fields []api.Field) bool {
	seen := make(map[string]bool)
	for _, f := range fields {
		if !spelling.IsWord(f.Name) || seen[f.Name] {
			return false
		}
		seen[f.Name] = true
	}
	return true
}

// haveSameFields reports whether all ends of a set have the same fields, in whatever order.
func haveSameFields(set []api.End, fields map[string][]api.Field) bool {
	want := ordered(fields[set[0].Path])
	for _, x := range set[1:] {
		if !slices.Equal(ordered(fields[x.Path]), want) {
			return false
		}
	}
	return true
}

// ordered returns fields in the order of their Names, those without Flow before those with it.
func ordered(fields []api.Field) []api.Field {
	return slices.SortedFunc(slices.Values(fields), compareFields)
}

func compareFields(a, b api.Field) int {
	return cmp.Or(strings.Compare(a.Name, b.Name), compareTruths(a.Flow, b.Flow))
}

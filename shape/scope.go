package shape

import (
	"strings"

	"linkwork/api"
	"linkwork/syntax"
)

// The limits of scopes.
const (
	maxPaths  = 400
	maxWholes = 100
	maxWords  = 8       // of a path
	maxWhole  = 1000000 // and it may be as much less than 0
)

// isScope reports whether a scope, of whatever size, is one.
func isScope(s api.Scope) bool {
	known := make(map[string]bool) // since paths have most words in common
	for i, p := range s.Paths {
		words := strings.Split(p.Name, ".")
		if i > 0 && s.Paths[i-1].Name >= p.Name || len(p.Dims) != len(words) {
			return false
		}
		for j, word := range words {
			if !known[word] && !isWord(word) || !areDims(p.Dims[j]) {
				return false
			}
			known[word] = true
		}
	}
	for i, w := range s.Wholes {
		if i > 0 && s.Wholes[i-1].Name >= w.Name || !isWord(w.Name) || w.Value < -maxWhole || w.Value > maxWhole {
			return false
		}
	}
	return true
}

func isWord(text string) bool {
	part := api.Tree{Op: "part", Text: text}
	return syntax.IsExpr(api.Tree{Op: "ref", Kids: []api.Tree{part}})
}

// areDims reports whether numbers may be the dimensions of a word.
func areDims(numbers []int) bool {
	for _, n := range numbers {
		if n < 0 || n > api.MaxDim {
			return false
		}
	}
	return len(numbers) <= api.MaxDims
}

func isTooLarge(s api.Scope) bool {
	for _, p := range s.Paths {
		if len(p.Dims) > maxWords {
			return true
		}
	}
	return len(s.Paths) > maxPaths || len(s.Wholes) > maxWholes
}

// scope is the names of a scope.
type scope struct {
	paths  map[string][][]int
	wholes map[string]int
}

func newScope(s api.Scope) scope {
	in := scope{make(map[string][][]int), make(map[string]int)}
	for _, p := range s.Paths {
		in.paths[p.Name] = p.Dims
	}
	for _, w := range s.Wholes {
		in.wholes[w.Name] = w.Value
	}
	return in
}

func (in scope) Path(name string) ([][]int, bool) {
	d, ok := in.paths[name]
	return d, ok
}

func (in scope) Whole(word string) (int, bool) {
	v, ok := in.wholes[word]
	return v, ok
}

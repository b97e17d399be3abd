package instance

import (
	"maps"
	"slices"
	"strconv"
	"strings"

	"linkwork/api"
	"linkwork/syntax"
	"linkwork/system"
)

// step is a word of a Path, with its index.
type step struct {
	word  string
	index []int
}

// path is the steps of a Path.
type path []step

// words returns the words of a path with `.` between.
func (p path) words() string {
	var words []string
	for _, s := range p {
		words = append(words, s.word)
	}
	return strings.Join(words, ".")
}

// startsWith reports whether a path begins with the words of another one.
func (p path) startsWith(other path) bool {
	return len(p) >= len(other) && p[:len(other)].words() == other.words()
}

// pathOf returns the path that a text is; false if it is none.
func pathOf(text string) (path, bool) {
	if len(text) > api.MaxName {
		return nil, false
	}
	var p path
	for part := range strings.SplitSeq(text, ".") {
		s, ok := stepOf(part)
		if !ok {
			return nil, false
		}
		p = append(p, s)
	}
	return p, true
}

// stepOf returns the step that a part of a Path is; false if it is none.
func stepOf(text string) (step, bool) {
	word, list, isIndexed := strings.Cut(text, "[")
	if !isWord(word) {
		return step{}, false
	}
	if !isIndexed {
		return step{word: word}, true
	}
	list, isClosed := strings.CutSuffix(list, "]")
	var index []int
	for number := range strings.SplitSeq(list, ",") {
		n, ok := wholeOf(number)
		if !ok || n < 1 || n > api.MaxDim || strconv.Itoa(n) != number {
			return step{}, false
		}
		index = append(index, n)
	}
	return step{word, index}, isClosed && len(index) <= api.MaxDims
}

func isWord(text string) bool {
	part := api.Tree{Op: opPart, Text: text}
	return syntax.IsExpr(api.Tree{Op: opRef, Kids: []api.Tree{part}})
}

// pathsOf returns the paths of a list of instances; false if it is not well made.
func pathsOf(list []api.Inst) ([]path, bool) {
	var paths []path
	classes := make(map[string]string) // by Paths
	indices := make(map[string]int)    // how many the last words of paths have, by the words of these
	for i, x := range list {
		p, ok := pathOf(x.Path)
		if !ok || !isInstance(x) || i > 0 && list[i-1].Path >= x.Path {
			return nil, false
		}
		count := len(p[len(p)-1].index)
		if known, ok := indices[p.words()]; ok && known != count {
			return nil, false
		}
		indices[p.words()] = count
		classes[x.Path] = x.Class
		paths = append(paths, p)
	}
	for _, x := range list {
		if end := strings.LastIndex(x.Path, "."); end >= 0 {
			class, ok := classes[x.Path[:end]]
			if !ok || isBuiltIn(class) {
				return nil, false
			}
		}
	}
	return paths, true
}

// isInstance reports whether all but the Path of an instance may be so.
func isInstance(x api.Inst) bool {
	if !isBuiltIn(x.Class) {
		return isWord(x.Class) && x == api.Inst{Path: x.Path, Class: x.Class, Kind: -1}
	}
	v := api.Var{Name: x.Path, Kind: x.Kind, Type: x.Type, Value: x.Value, Start: x.Start, Fixed: x.Fixed, Unit: x.Unit}
	if !isVar(v) || x.Type != typeIn(x.Class) || x.Flow && x.Kind != api.Continuous {
		return false
	}
	_, isWhole := wholeOf(x.Value)
	return isWhole || x.Class != classInteger
}

func isVar(v api.Var) bool {
	return system.Check(api.System{Vars: []api.Var{v}}) == api.OK
}

// isUnit reports whether it is a unit, which the Unit of a variable may be, or it is empty.
func isUnit(text string) bool {
	return text != "" && isVar(api.Var{Name: "x", Unit: text})
}

// instanceAt returns the instance with a Path; false if there is none.
func instanceAt(list []api.Inst, path string) (api.Inst, bool) {
	i, ok := slices.BinarySearchFunc(list, path, func(x api.Inst, path string) int { return strings.Compare(x.Path, path) })
	if !ok {
		return api.Inst{}, false
	}
	return list[i], true
}

// hasPart reports whether a list has an instance with a Path that is not of a built-in class.
func hasPart(list []api.Inst, path string) bool {
	x, ok := instanceAt(list, path)
	return ok && !isBuiltIn(x.Class)
}

// pathsIn returns the paths of the scope of an instance. All instances of a place have the same dimensions, so that
// those of its places are seen best from all of them.
func pathsIn(paths []path, at string) []api.Path {
	var home path
	if at != "" {
		home, _ = pathOf(at)
	}
	dims := make(map[string][][]int)
	for _, p := range paths {
		if len(p) == len(home) || !p.startsWith(home) {
			continue
		}
		inner := p[len(home):]
		name := inner.words()
		if dims[name] == nil {
			dims[name] = inner.ones()
		}
		for i, s := range inner {
			for j, n := range s.index {
				dims[name][i][j] = max(dims[name][i][j], n)
			}
		}
	}
	var list []api.Path
	for _, name := range slices.Sorted(maps.Keys(dims)) {
		list = append(list, api.Path{Name: name, Dims: dims[name]})
	}
	return list
}

// ones returns the least dimensions that the words of a path may have.
func (p path) ones() [][]int {
	var dims [][]int
	for _, s := range p {
		dims = append(dims, slices.Repeat([]int{1}, len(s.index)))
	}
	return dims
}

// wholesIn returns the whole numbers of the scope of an instance.
func wholesIn(list []api.Inst, at string) []api.Whole {
	prefix := ""
	if at != "" {
		prefix = at + "."
	}
	var wholes []api.Whole
	for _, x := range list {
		word, ok := strings.CutPrefix(x.Path, prefix)
		if ok && x.Class == classInteger && isWord(word) {
			value, _ := wholeOf(x.Value)
			wholes = append(wholes, api.Whole{Name: word, Value: value})
		}
	}
	return wholes
}

package instance

import "strings"

// view is the names in the scope of an instance at a place.
type view struct {
	at *place
}

func (in view) Path(name string) ([][]int, bool) {
	path, ok := in.at.along(strings.Split(name, "."))
	var dims [][]int
	for _, p := range path {
		dims = append(dims, p.dims)
	}
	return dims, ok
}

func (in view) Whole(word string) (int, bool) {
	p, ok := in.at.inside(word)
	if !ok {
		return 0, false
	}
	value, ok := p.asWhole()
	if !ok {
		return 0, false
	}
	return value.element(0).whole()
}

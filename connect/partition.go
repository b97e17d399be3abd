package connect

import (
	"maps"
	"slices"

	"linkwork/api"
)

const maxEnds = 400 // ends, and connections of them, each

// partition is connection sets: it leads from each end to an earlier one of its set, and from the first one to itself.
type partition map[api.End]api.End

// partitionOf returns the connection sets of ends, and the errors of Sets.
func partitionOf(ends []api.End, links [][2]api.End) (partition, api.Errno) {
	if !areNamed(ends...) {
		return nil, api.ErrForm
	}
	for _, link := range links {
		if !areNamed(link[:]...) {
			return nil, api.ErrForm
		}
	}
	p := make(partition)
	for _, x := range ends {
		if p.has(x) {
			return nil, api.ErrName
		}
		p[x] = x
	}
	for _, link := range links {
		if !p.has(link[:]...) {
			return nil, api.ErrName
		}
	}
	if len(ends) > maxEnds || len(links) > maxEnds {
		return nil, api.ErrSize
	}
	for _, link := range links {
		p.join(link[0], link[1])
	}
	return p, api.OK
}

func (p partition) has(ends ...api.End) bool {
	for _, x := range ends {
		if _, ok := p[x]; !ok {
			return false
		}
	}
	return true
}

// first returns the first end of the set that an end is in.
func (p partition) first(x api.End) api.End {
	for p[x] != x {
		p[x] = p[p[x]] // so that the next way from here is shorter
		x = p[x]
	}
	return x
}

// join makes one set of those that two ends are in.
func (p partition) join(a, b api.End) {
	one := p.first(a)
	other := p.first(b)
	if compareEnds(one, other) > 0 {
		one, other = other, one
	}
	p[other] = one
}

// sets returns the sets, each in order, in the order of their first ends.
func (p partition) sets() [][]api.End {
	var list [][]api.End
	places := make(map[api.End]int) // in the list, by first ends
	for _, x := range slices.SortedFunc(maps.Keys(p), compareEnds) {
		first := p.first(x)
		if first == x {
			places[x] = len(list)
			list = append(list, nil)
		}
		at := places[first]
		list[at] = append(list[at], x)
	}
	return list
}

package arrays

import (
	"iter"

	"linkwork/api"
)

// maxDims is the greatest number of dimensions of an expression.
const maxDims = 2 * api.MaxDims

// missing is what there is in place of a dimension behind the last one.
const missing = -1

// dims is a shape: the numbers of elements of its dimensions, and then missing ones.
type dims [maxDims]int

var scalar = dims{missing, missing, missing, missing}

// dimsOf returns the shape with these numbers of elements; false if they are too many.
func dimsOf(numbers []int) (dims, bool) {
	d := scalar
	copy(d[:], numbers)
	return d, len(numbers) <= maxDims
}

func (d dims) count() int {
	n := 0
	for n < maxDims && d[n] != missing {
		n++
	}
	return n
}

// numbers returns the numbers of elements, without the missing ones.
func (d dims) numbers() []int {
	return append([]int(nil), d[:d.count()]...)
}

// has reports whether an index is one of the shape.
func (d dims) has(index []int) bool {
	if len(index) != d.count() {
		return false
	}
	for i, k := range index {
		if k < 1 || k > d[i] {
			return false
		}
	}
	return true
}

// indices goes through all indices of the shape, in their order.
func (d dims) indices() iter.Seq[[]int] {
	return func(yield func(index []int) bool) {
		d.complete(nil, yield)
	}
}

// complete goes through the indices that begin with some numbers, until it is told to stop.
func (d dims) complete(first []int, yield func(index []int) bool) bool {
	if len(first) == d.count() {
		return yield(append([]int(nil), first...))
	}
	for i := range d[len(first)] {
		if !d.complete(append(first, i+1), yield) {
			return false
		}
	}
	return true
}

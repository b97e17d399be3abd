package instance

import "linkwork/api"

// tooLong is what there is in place of an error if a number is too long to be calculated with. It does not count as
// one: it becomes ErrSize, and only where an instance needs the number. An Integer that is so, which dimensions may need,
// is not known; of other values just those are not known that are calculated with it.
const tooLong = api.ErrLimit

// fact is something that is found of a place: its dimensions, or what a formula gives its elements.
type fact struct {
	needs []*fact // what it depends on
	find  func() api.Errno
	trace trace
	err   api.Errno

	isSettled bool // whether it has been looked for
	isKnown   bool
}

// trace says how far the search for facts that depend on themselves has got with one.
type trace int

const (
	untraced trace = iota
	begun
	traced
)

// leadsToItself reports whether a fact, or one that it depends on, depends on itself.
func (f *fact) leadsToItself() bool {
	switch f.trace {
	case begun:
		return true
	case traced:
		return false
	}
	f.trace = begun
	for _, need := range f.needs {
		if need.leadsToItself() {
			return true
		}
	}
	f.trace = traced
	return false
}

// settle finds a fact, which does not depend on itself. If something that it depends on is not known, it is not known
// either, and has no error of its own.
func (f *fact) settle() {
	if f.isSettled {
		return
	}
	f.isSettled = true
	for _, need := range f.needs {
		need.settle()
		if !need.isKnown {
			return
		}
	}
	f.err = f.find()
	f.isKnown = f.err == api.OK
}

// failure returns the error of a fact, if it counts as one.
func (f *fact) failure() api.Errno {
	if f.err == tooLong {
		return api.OK
	}
	return f.err
}

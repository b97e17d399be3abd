package arrays

import (
	"strconv"

	"linkwork/api"
)

// maker makes one element of an expression that has a shape. It counts the trees that it makes, all of which are in
// that element.
type maker struct {
	Names
	made int
}

func (m *maker) tree(op, text string, kids ...api.Tree) api.Tree {
	m.made++
	return api.Tree{Op: op, Text: text, Kids: kids}
}

// element returns the element of an expression with an index; of a scalar the only one, which is the same with any
// index, since none of its numbers is used. It may be too large, and then it is not complete.
func (m *maker) element(t api.Tree, index []int) api.Tree {
	switch t.Op {
	case opRef:
		if v, ok := wholeOf(m, t); ok {
			return m.number(v)
		}
		return m.ref(t, index)
	case opDer, api.Pre:
		return m.tree(t.Op, "", m.ref(t.Kids[0], index))
	case opSize:
		v, _ := valueOf(m, t)
		return m.number(v)
	case opSum:
		return m.sum(t.Kids[0])
	case opList:
		return m.element(t.Kids[index[0]-1], index[1:])
	}
	var kids []api.Tree
	for _, kid := range t.Kids {
		kids = append(kids, m.element(kid, index))
	}
	return m.tree(t.Op, t.Text, kids...)
}

// ref returns a ref, where it is a path, with the numbers of an index at those parts that have none.
func (m *maker) ref(t api.Tree, index []int) api.Tree {
	words, _ := pathOf(m, t)
	var parts []api.Tree
	for i, part := range t.Kids {
		var kids []api.Tree
		for _, kid := range part.Kids {
			v, _ := valueOf(m, kid)
			kids = append(kids, m.number(v))
		}
		if len(kids) == 0 {
			for range words[i] {
				kids = append(kids, m.number(index[0]))
				index = index[1:]
			}
		}
		parts = append(parts, m.tree(opPart, part.Text, kids...))
	}
	return m.tree(opRef, "", parts...)
}

func (m *maker) number(v int) api.Tree {
	if v < 0 {
		return m.tree(api.Neg, "", m.number(-v))
	}
	return m.tree(api.Num, strconv.Itoa(v))
}

// sum returns the sum of all elements of an expression. Sums in sums may have very many, so it stops as soon as the
// whole is too large.
func (m *maker) sum(t api.Tree) api.Tree {
	d, _ := shapeOf(m, t)
	var list []api.Tree
	for index := range d.indices() {
		if m.made > api.MaxTree {
			break
		}
		list = append(list, m.element(t, index))
	}
	if len(list) == 0 {
		return m.number(0)
	}
	total := list[0]
	for _, x := range list[1:] {
		total = m.tree(api.Add, "", total, x)
	}
	return total
}

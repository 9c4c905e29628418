package arena

import (
	"cmp"
	"slices"

	"spool/api"
)

// book has a number for each node that it met: nodes whose parts and sets are the same have one number, wherever they stand.
type book map[api.Node]int

// number tells a node's number.
func (b book) number(n api.Node) int {
	i, ok := b[n]
	if !ok {
		i = len(b)
		b[n] = i
	}
	return i
}

// compare tells which of two sets stands first, or 0 of sets that are the same.
func compare(a, b []api.Range) int {
	return slices.CompareFunc(a, b, func(x, y api.Range) int {
		return cmp.Or(cmp.Compare(x.Lo, y.Lo), cmp.Compare(x.Hi, y.Hi))
	})
}

// alike tells a number of each set: those that are the same have one.
func alike(sets [][]api.Range) []int {
	// Put in order, sets that are the same stand side by side, so that not each has to be held against each.
	order := make([]int, len(sets))
	for i := range order {
		order[i] = i
	}
	slices.SortFunc(order, func(i, j int) int { return compare(sets[i], sets[j]) })
	l := make([]int, len(sets))
	for k, i := range order {
		l[i] = k
		if k > 0 && compare(sets[order[k-1]], sets[i]) == 0 {
			l[i] = l[order[k-1]]
		}
	}
	return l
}

// Same tells whether two trees are the same.
func Same(a, b api.Tree) bool {
	if Check(a) != api.OK || Check(b) != api.OK {
		return false
	}
	// Numbers are held against each other, not parts: a part that stands in many places may have more nodes, each time gone through, than can be counted.
	set, met := alike(slices.Concat(a.Sets, b.Sets)), book{}
	return through(a, set[:len(a.Sets)], met.number) == through(b, set[len(a.Sets):], met.number)
}

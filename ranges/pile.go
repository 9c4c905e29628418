package ranges

import (
	"container/heap"

	"spool/api"
)

// pile is a heap of ranges, the least one on top.
type pile []api.Range

func (p pile) Len() int { return len(p) }

// Less holds beginnings alone against each other: ranges that begin alike are joined, whichever leaves first.
func (p pile) Less(i, j int) bool { return p[i].Lo < p[j].Lo }

func (p pile) Swap(i, j int) { p[i], p[j] = p[j], p[i] }

func (p *pile) Push(x any) { *p = append(*p, x.(api.Range)) }

func (p *pile) Pop() any {
	last := len(*p) - 1
	r := (*p)[last]
	*p = (*p)[:last]
	return r
}

// put puts ranges onto the heap one by one, of each what counts of it.
func (p *pile) put(l ...api.Range) {
	for _, r := range l {
		r.Lo, r.Hi = max(r.Lo, 0), min(r.Hi, api.MaxRune)
		if r.Lo <= r.Hi {
			heap.Push(p, r)
		}
	}
}

// joined tells the set of ranges that leave a heap, the least one first.
func joined(h heap.Interface) []api.Range {
	var l []api.Range
	for h.Len() > 0 {
		r := heap.Pop(h).(api.Range)
		last := len(l) - 1
		if last < 0 || r.Lo > l[last].Hi+1 {
			l = append(l, r)
		} else {
			l[last].Hi = max(l[last].Hi, r.Hi)
		}
	}
	return l
}

package merge

import (
	"bytes"
	"container/heap"

	"marigraph/api"
	"marigraph/octet"
)

// row is a source: what of a row has not been told yet.
type row struct {
	left []api.Entry
}

// next answers the row's next entry, as long as there is one.
func (r *row) next() (api.Entry, bool) {
	if len(r.left) == 0 {
		return api.Entry{}, false
	}
	e := r.left[0]
	r.left = r.left[1:]
	return e, true
}

// head is what a source has told and nobody has taken yet. Its age is 0 of the newest source.
type head struct {
	entry api.Entry
	age   int
	next  func() (api.Entry, bool)
}

// heads has one head of each source that is not through. It is a heap, so that many sources are asked as fast as few: the first of all entries stands on top.
type heads []*head

// add asks a source for its first entry. One that has none needs no head.
func (h *heads) add(age int, next func() (api.Entry, bool)) {
	if e, ok := next(); ok {
		heap.Push(h, &head{entry: e, age: age, next: next})
	}
}

// take answers the first of all entries, and asks its source for the one behind it. There must be a head.
func (h *heads) take() api.Entry {
	top := (*h)[0]
	taken := top.entry
	e, ok := top.next()
	if !ok {
		heap.Pop(h)
		return taken
	}
	top.entry = e
	heap.Fix(h, 0)
	return taken
}

// Len is asked by container/heap.
func (h heads) Len() int { return len(h) }

// Less is asked by container/heap: the lower Key stands ahead, and of one Key the newer source's.
func (h heads) Less(i, j int) bool {
	a, b := h[i], h[j]
	if bytes.Equal(a.entry.Key, b.entry.Key) {
		return a.age < b.age
	}
	return octet.Less(a.entry.Key, b.entry.Key)
}

// Swap is asked by container/heap.
func (h heads) Swap(i, j int) { h[i], h[j] = h[j], h[i] }

// Push is asked by container/heap: it lays a head behind the others.
func (h *heads) Push(x any) { *h = append(*h, x.(*head)) }

// Pop is asked by container/heap: it takes the head that stands behind the others.
func (h *heads) Pop() any {
	last := len(*h) - 1
	x := (*h)[last]
	*h = (*h)[:last]
	return x
}

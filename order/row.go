package order

import (
	"cmp"
	"container/heap"
	"slices"
)

// entry is who waits, and at which rank.
type entry struct{ key, rank int }

// compare is below 0 if e comes ahead of f, and above 0 if f comes ahead of e.
func compare(e, f entry) int {
	return cmp.Or(cmp.Compare(e.rank, f.rank), cmp.Compare(e.key, f.key))
}

// entries is a heap as container/heap has it, with what a queue asks of it beside that.
type entries interface {
	heap.Interface
	// place is where the entry with that key stands; false, if there is none.
	place(key int) (int, bool)
	// sorted is a copy of all entries, as they come.
	sorted() []entry
}

// row is entries in a slice.
type row struct {
	all    []entry
	places map[int]int // where the entry of each key stands: a heap tells nothing of any but the first
}

func (r *row) Len() int           { return len(r.all) }
func (r *row) Less(i, j int) bool { return compare(r.all[i], r.all[j]) < 0 }

func (r *row) Swap(i, j int) {
	r.all[i], r.all[j] = r.all[j], r.all[i]
	r.places[r.all[i].key] = i
	r.places[r.all[j].key] = j
}

// Push lays the entry behind all others; heap.Push brings it to its place.
func (r *row) Push(x any) {
	e := x.(entry)
	r.places[e.key] = len(r.all)
	r.all = append(r.all, e)
}

// Pop takes out the last entry, where heap.Remove has brought the one that it is to take out.
func (r *row) Pop() any {
	last := len(r.all) - 1
	e := r.all[last]
	r.all = r.all[:last]
	delete(r.places, e.key)
	return e
}

func (r *row) place(key int) (int, bool) {
	at, there := r.places[key]
	return at, there
}

func (r *row) sorted() []entry {
	all := slices.Clone(r.all)
	slices.SortFunc(all, compare)
	return all
}

package process

import (
	"cmp"
	"slices"

	"riffle/api"
	"riffle/heap"
	"riffle/order"
)

// name is what no two items of a process share, and by which an anti tells what it undoes.
type name struct {
	origin int
	serial int64
}

func named(x api.Item) name {
	return name{x.Origin, x.Serial}
}

// isOfProcess is whether an item's origin is a process.
func isOfProcess(x api.Item) bool {
	return isProcess(x.Origin)
}

func isProcess(origin int) bool {
	return 1 <= origin && origin <= api.MaxProcs
}

// waiting has the items that wait: those of processes, which may go back, stand apart from the others, so that the greatest of them need not be sought.
type waiting struct {
	ofProcs  *heap.Heap
	ofOthers *heap.Heap
}

func newWaiting() waiting {
	return waiting{heap.New(), heap.New()}
}

// compare orders items by their keys, those of one key by their serials.
func compare(a, b api.Item) int {
	return cmp.Or(order.ByKey(a.Event, b.Event), cmp.Compare(a.Serial, b.Serial))
}

// of is where items of an origin wait.
func (w waiting) of(origin int) *heap.Heap {
	if isProcess(origin) {
		return w.ofProcs
	}
	return w.ofOthers
}

// next is where the least one waits.
func (w waiting) next() *heap.Heap {
	a, ok := w.ofProcs.Least()
	b, is := w.ofOthers.Least()
	if !ok || is && compare(b, a) < 0 {
		return w.ofOthers
	}
	return w.ofProcs
}

func (w waiting) least() (api.Item, bool) { return w.next().Least() }

func (w waiting) take() (api.Item, bool) { return w.next().Take() }

func (w waiting) put(x api.Item) { w.of(x.Origin).Put(x) }

func (w waiting) has(n name) bool { return w.of(n.origin).Has(n.origin, n.serial) }

func (w waiting) drop(n name) { w.of(n.origin).Drop(n.origin, n.serial) }

func (w waiting) len() int { return w.ofProcs.Len() + w.ofOthers.Len() }

// furthest is the greatest one of a process, and whether there is one.
func (w waiting) furthest() (api.Item, bool) { return w.ofProcs.Most() }

// all has them in order.
func (w waiting) all() []api.Item {
	l := slices.AppendSeq(slices.Collect(w.ofProcs.All()), w.ofOthers.All())
	slices.SortFunc(l, compare)
	return l
}

func (w waiting) copy() waiting {
	return waiting{w.ofProcs.Copy(), w.ofOthers.Copy()}
}

func (w waiting) same(o waiting) bool {
	return w.ofProcs.Same(o.ofProcs) && w.ofOthers.Same(o.ofOthers)
}

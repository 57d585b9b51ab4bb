package view

import (
	"container/heap"
	"iter"

	"colander/api"
)

// heads stand in what each tier adds, and in what it drops: none at a pair ahead of where the view stands. Rows that are gone through leave the queue.
type heads struct {
	queue queue
}

func headsOf(l []api.Tier) heads {
	var out heads
	for at, t := range l {
		out.put(&head{row: copyOf(t.Adds), tier: at, adds: true})
		out.put(&head{row: copyOf(t.Drops), tier: at})
	}
	return out
}

func (h *heads) put(x *head) {
	if len(x.row) > 0 {
		heap.Push(&h.queue, x)
	}
}

func (h *heads) take() *head {
	return heap.Pop(&h.queue).(*head)
}

// first is the pair that the first head stands at, which is there: goTo sees to that.
func (h *heads) first() (api.Pair, bool) {
	if len(h.queue) == 0 {
		return api.Pair{}, false
	}
	return h.queue[0].row[0], true
}

// goTo goes on to the first pair that is far enough and there; or to the end. The first head is of the newest tier that has its pair: that one says.
func (h *heads) goTo(farEnough func(api.Pair) bool) {
steps:
	for len(h.queue) > 0 {
		newest := h.queue[0]
		p := newest.row[0]
		switch {
		case !farEnough(p):
			x := h.take()
			x.row = onwards(x.row, farEnough)
			h.put(x)
		case newest.adds:
			break steps
		default:
			// What older tiers say of a pair that is dropped is passed with it.
			farEnough = mark(p).isPassed
		}
	}
}

// rest tells the pairs from where the heads stand on; they go along.
func (h *heads) rest() iter.Seq[api.Pair] {
	return func(yield func(api.Pair) bool) {
		for {
			p, ok := h.first()
			if !ok || !yield(p) {
				return
			}
			h.goTo(mark(p).isPassed)
		}
	}
}

// copied are other heads at the same places. They stand in the same rows: nobody writes to these.
func (h *heads) copied() heads {
	out := heads{make(queue, len(h.queue))}
	for i, x := range h.queue {
		same := *x
		out.queue[i] = &same
	}
	return out
}

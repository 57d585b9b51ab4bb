package view

import "colander/run"

// queue is a heap: ahead stands what is at the first pair, and, of several at that one, what the newest tier says.
type queue []*head

func (q queue) Len() int {
	return len(q)
}

func (q queue) Less(i, j int) bool {
	order := run.Compare(q[i].row[0], q[j].row[0])
	return order < 0 || order == 0 && q[i].tier > q[j].tier
}

func (q queue) Swap(i, j int) {
	q[i], q[j] = q[j], q[i]
}

func (q *queue) Push(x any) {
	*q = append(*q, x.(*head))
}

func (q *queue) Pop() any {
	last := len(*q) - 1
	x := (*q)[last]
	(*q)[last] = nil // a row that is gone through is not to be kept behind the end
	*q = (*q)[:last]
	return x
}

package wire

// queue is a heap (container/heap) of parcels, the one that comes next first.
type queue []parcel

// Len is how many there are.
func (q queue) Len() int { return len(q) }

// Less tells whether one comes ahead of another.
func (q queue) Less(i, j int) bool { return order(q[i], q[j]) < 0 }

// Swap lets two change places.
func (q queue) Swap(i, j int) { q[i], q[j] = q[j], q[i] }

// Push puts one at the end.
func (q *queue) Push(x any) { *q = append(*q, x.(parcel)) }

// Pop takes the last one; its place is emptied, so that its bytes are not kept.
func (q *queue) Pop() any {
	last := len(*q) - 1
	p := (*q)[last]
	(*q)[last] = parcel{}
	*q = (*q)[:last]
	return p
}

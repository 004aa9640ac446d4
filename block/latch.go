package block

// latch has the cells of an SR or an RS.
type latch struct {
	set   bool // S1, S
	reset bool // R, R1
	q1    bool
}

func latchOf(cells []int64) latch {
	return latch{set: cells[0] == 1, reset: cells[1] == 1, q1: cells[2] == 1}
}

func (l *latch) cells() []int64 {
	return []int64{bit(l.set), bit(l.reset), bit(l.q1)}
}

// sr is set, where it is set and reset at once.
type sr struct {
	latch
}

func (b *sr) step(int64) {
	b.q1 = b.set || !b.reset && b.q1
}

// rs is reset, where it is set and reset at once.
type rs struct {
	latch
}

func (b *rs) step(int64) {
	b.q1 = !b.reset && (b.set || b.q1)
}

package block

import "math"

// counter has the cells of a CTU or a CTD.
type counter struct {
	count bool // CU, CD
	begin bool // R, LD
	pv    int64
	q     bool
	cv    int64
	m     bool
}

func counterOf(cells []int64) counter {
	return counter{count: cells[0] == 1, begin: cells[1] == 1, pv: cells[2], q: cells[3] == 1, cv: cells[4], m: cells[5] == 1}
}

func (c *counter) cells() []int64 {
	return []int64{bit(c.count), bit(c.begin), c.pv, bit(c.q), c.cv, bit(c.m)}
}

// rises answers whether what is counted is there, and was not at the last call.
func (c *counter) rises() bool {
	return c.count && !c.m
}

// ctu counts up from 0, and has Q from PV on.
type ctu struct {
	counter
}

func (b *ctu) step(int64) {
	if b.begin {
		b.cv = 0
	} else if b.rises() && b.cv < math.MaxInt16 {
		b.cv++
	}
	b.m = b.count
	b.q = b.cv >= b.pv
}

// ctd counts down from PV, and has Q from 0 on.
type ctd struct {
	counter
}

func (b *ctd) step(int64) {
	if b.begin {
		b.cv = b.pv
	} else if b.rises() && b.cv > math.MinInt16 {
		b.cv--
	}
	b.m = b.count
	b.q = b.cv <= 0
}

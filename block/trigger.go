package block

// trigger has the cells of an R_TRIG or an F_TRIG.
type trigger struct {
	clk, q, m bool
}

func triggerOf(cells []int64) trigger {
	return trigger{clk: cells[0] == 1, q: cells[1] == 1, m: cells[2] == 1}
}

func (t *trigger) cells() []int64 {
	return []int64{bit(t.clk), bit(t.q), bit(t.m)}
}

// rTrig has Q at the call at which CLK comes.
type rTrig struct {
	trigger
}

func (b *rTrig) step(int64) {
	b.q = b.clk && !b.m
	b.m = b.clk
}

// fTrig has Q at the call at which CLK goes.
type fTrig struct {
	trigger
}

func (b *fTrig) step(int64) {
	b.q = !b.clk && b.m
	b.m = b.clk
}

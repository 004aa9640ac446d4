package block

import (
	"capstan/api"
	"capstan/num"
)

// timer has the cells of a TON, a TOF or a TP.
type timer struct {
	in    bool
	pt    int64
	q     bool
	et    int64
	start int64
	run   bool
}

func timerOf(cells []int64) timer {
	return timer{in: cells[0] == 1, pt: cells[1], q: cells[2] == 1, et: cells[3], start: cells[4], run: cells[5] == 1}
}

func (t *timer) cells() []int64 {
	return []int64{bit(t.in), t.pt, bit(t.q), t.et, t.start, bit(t.run)}
}

// begin has the time run from now on.
func (t *timer) begin(now int64) {
	t.start, t.run = now, true
}

// elapse brings ET up to now, and answers whether PT has gone.
func (t *timer) elapse(now int64) bool {
	gone, _ := num.Two(api.NSub, api.TTime, now, t.start) // both fit, so there is nothing to refuse
	t.et = min(gone, t.pt)
	return gone >= t.pt
}

// ton has Q from PT behind the beginning of IN on, up to its end.
type ton struct {
	timer
}

func (b *ton) step(now int64) {
	if !b.in {
		b.q, b.et, b.run = false, 0, false
		return
	}
	if !b.run {
		b.begin(now)
	}
	b.q = b.elapse(now)
}

// tof has Q from the beginning of IN on, up to PT behind its end.
type tof struct {
	timer
}

func (b *tof) step(now int64) {
	if b.in {
		b.q, b.et, b.run = true, 0, false
		return
	}
	if !b.q {
		return
	}
	if !b.run {
		b.begin(now)
	}
	b.q = !b.elapse(now)
	b.run = b.q
}

// tp has Q for PT from the beginning of IN on, however long IN is.
type tp struct {
	timer
}

func (b *tp) step(now int64) {
	// A pulse that is over keeps its ET for as long as IN is there, so that the same IN begins no other one.
	if !b.run && b.in && b.et == 0 {
		b.begin(now)
	}
	if b.run {
		b.q = !b.elapse(now)
		b.run = b.q
	}
	if !b.run && !b.in {
		b.et = 0
	}
}

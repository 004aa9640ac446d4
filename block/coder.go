package block

import (
	"capstan/api"
	"capstan/num"
	"capstan/quad"
)

// coder has the cells of a QUAD.
type coder struct {
	a, b, r bool
	cv      int64
	err     bool
	last    int64
}

func coderOf(cells []int64) coder {
	return coder{a: cells[0] == 1, b: cells[1] == 1, r: cells[2] == 1, cv: cells[3], err: cells[4] == 1, last: cells[5]}
}

func (c *coder) cells() []int64 {
	return []int64{bit(c.a), bit(c.b), bit(c.r), c.cv, bit(c.err), c.last}
}

// follow counts the step from the last place to this one; a jump is none, and is told.
func (c *coder) follow(place int) {
	step, e := quad.Step(int(c.last-1), place)
	if e == api.ErrLine {
		c.err = true
		return
	}
	c.cv, _ = num.Two(api.NAdd, api.TDint, c.cv, int64(step)) // both fit, so there is nothing to refuse
}

// quadrature counts the steps of two lines.
type quadrature struct {
	coder
}

func (b *quadrature) step(int64) {
	place := quad.Place(b.a, b.b)
	if b.r {
		b.cv, b.err = 0, false
	} else if b.last >= 1 && b.last <= 4 { // a LAST beside these is no place: there is none to come from
		b.follow(place)
	}
	b.last = int64(place) + 1
}

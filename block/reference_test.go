package block_test

import (
	"math"
	"math/rand"
	"slices"
	"testing"

	"capstan/api"
	"capstan/block"
)

// kindRow is a kind of block as chapter 9 has it: its fields, their types, how many of them may be set.
type kindRow struct {
	kind  int
	name  string
	names []string
	types []int
	set   int
}

// kinds are all kinds, written out.
var kinds = []kindRow{
	{1, "TON", []string{"IN", "PT", "Q", "ET", "START", "RUN"}, []int{api.TBool, api.TTime, api.TBool, api.TTime, api.TTime, api.TBool}, 2},
	{2, "TOF", []string{"IN", "PT", "Q", "ET", "START", "RUN"}, []int{api.TBool, api.TTime, api.TBool, api.TTime, api.TTime, api.TBool}, 2},
	{3, "TP", []string{"IN", "PT", "Q", "ET", "START", "RUN"}, []int{api.TBool, api.TTime, api.TBool, api.TTime, api.TTime, api.TBool}, 2},
	{4, "CTU", []string{"CU", "R", "PV", "Q", "CV", "M"}, []int{api.TBool, api.TBool, api.TInt, api.TBool, api.TInt, api.TBool}, 3},
	{5, "CTD", []string{"CD", "LD", "PV", "Q", "CV", "M"}, []int{api.TBool, api.TBool, api.TInt, api.TBool, api.TInt, api.TBool}, 3},
	{6, "R_TRIG", []string{"CLK", "Q", "M"}, []int{api.TBool, api.TBool, api.TBool}, 1},
	{7, "F_TRIG", []string{"CLK", "Q", "M"}, []int{api.TBool, api.TBool, api.TBool}, 1},
	{8, "SR", []string{"S1", "R", "Q1"}, []int{api.TBool, api.TBool, api.TBool}, 2},
	{9, "RS", []string{"S", "R1", "Q1"}, []int{api.TBool, api.TBool, api.TBool}, 2},
	{10, "QUAD", []string{"A", "B", "R", "CV", "ERR", "LAST"}, []int{api.TBool, api.TBool, api.TBool, api.TDint, api.TBool, api.TInt}, 3},
}

// cellsByName are a block's cells by the names of their fields.
type cellsByName map[string]int64

func (k kindRow) named(cells []int64) cellsByName {
	c := cellsByName{}
	for i, n := range k.names {
		c[n] = cells[i]
	}
	return c
}

func (k kindRow) listed(c cellsByName) []int64 {
	var l []int64
	for _, n := range k.names {
		l = append(l, c[n])
	}
	return l
}

func whether(holds bool) int64 {
	if holds {
		return 1
	}
	return 0
}

// gone is now minus START, modulo 2^32.
func (c cellsByName) gone(now int64) int64 {
	n := now - c["START"]
	for n > math.MaxInt32 {
		n -= 1 << 32
	}
	for n < math.MinInt32 {
		n += 1 << 32
	}
	return n
}

// behind answers the cells behind a call, by the chapter's words one by one.
func (k kindRow) behind(cells []int64, now int64) []int64 {
	c := k.named(cells)
	switch k.name {
	case "TON", "TOF", "TP":
		c.timed(k.name, now)
	case "CTU", "CTD":
		c.counted(k.name)
	case "QUAD":
		c.coded()
	default:
		c.flipped(k.name)
	}
	return k.listed(c)
}

func (c cellsByName) timed(name string, now int64) {
	switch name {
	case "TON":
		if c["IN"] == 0 {
			c["Q"], c["ET"], c["RUN"] = 0, 0, 0
		} else {
			if c["RUN"] == 0 {
				c["START"], c["RUN"] = now, 1
			}
			c["ET"] = min(c.gone(now), c["PT"])
			c["Q"] = whether(!(c.gone(now) < c["PT"]))
		}
	case "TOF":
		if c["IN"] == 1 {
			c["Q"], c["ET"], c["RUN"] = 1, 0, 0
		} else if c["Q"] == 1 {
			if c["RUN"] == 0 {
				c["START"], c["RUN"] = now, 1
			}
			c["ET"] = min(c.gone(now), c["PT"])
			c["Q"] = whether(c.gone(now) < c["PT"])
			if !(c.gone(now) < c["PT"]) {
				c["RUN"] = 0
			}
		}
	case "TP":
		if c["RUN"] == 0 && c["IN"] == 1 && c["ET"] == 0 {
			c["START"], c["RUN"] = now, 1
		}
		if c["RUN"] == 1 {
			c["ET"] = min(c.gone(now), c["PT"])
			c["Q"] = whether(c.gone(now) < c["PT"])
			c["RUN"] = c["Q"]
		}
		if c["RUN"] == 0 && c["IN"] == 0 {
			c["ET"] = 0
		}
	}
}

func (c cellsByName) counted(name string) {
	switch name {
	case "CTU":
		if c["R"] == 1 {
			c["CV"] = 0
		} else if c["CU"] == 1 && c["M"] == 0 && c["CV"] < 32767 {
			c["CV"] = c["CV"] + 1
		}
		c["M"] = c["CU"]
		c["Q"] = whether(!(c["CV"] < c["PV"]))
	case "CTD":
		if c["LD"] == 1 {
			c["CV"] = c["PV"]
		} else if c["CD"] == 1 && c["M"] == 0 && c["CV"] > -32768 {
			c["CV"] = c["CV"] - 1
		}
		c["M"] = c["CD"]
		c["Q"] = whether(!(c["CV"] > 0))
	}
}

func (c cellsByName) flipped(name string) {
	switch name {
	case "R_TRIG":
		c["Q"] = whether(c["CLK"] == 1 && c["M"] == 0)
		c["M"] = c["CLK"]
	case "F_TRIG":
		c["Q"] = whether(c["CLK"] == 0 && c["M"] == 1)
		c["M"] = c["CLK"]
	case "SR":
		if c["S1"] == 1 {
			c["Q1"] = 1
		} else if c["R"] == 1 {
			c["Q1"] = 0
		}
	case "RS":
		if c["R1"] == 1 {
			c["Q1"] = 0
		} else if c["S"] == 1 {
			c["Q1"] = 1
		}
	}
}

// jump stands in stepsBetween where there is no step, and the lines jumped.
const jump = 9

// stepsBetween has the step from each place (row) to each place, by their numbers, written out.
var stepsBetween = [4][4]int64{
	{0, 1, jump, -1},
	{-1, 0, 1, jump},
	{jump, -1, 0, 1},
	{1, jump, -1, 0},
}

func (c cellsByName) coded() {
	place := map[[2]int64]int64{{0, 0}: 0, {1, 0}: 1, {1, 1}: 2, {0, 1}: 3}[[2]int64{c["A"], c["B"]}]
	if c["R"] == 1 {
		c["CV"], c["ERR"] = 0, 0
	} else if c["LAST"] >= 1 && c["LAST"] <= 4 {
		if step := stepsBetween[c["LAST"]-1][place]; step == jump {
			c["ERR"] = 1
		} else {
			c["CV"] = int64(int32(c["CV"] + step))
		}
	}
	c["LAST"] = place + 1
}

// edgesOf answers values of a type: its edges, and some about 0 and 5.
func edgesOf(typ int) []int64 {
	switch typ {
	case api.TBool:
		return []int64{0, 1}
	case api.TInt:
		return []int64{-32768, -32767, -5, -1, 0, 1, 2, 3, 4, 5, 6, 32766, 32767}
	}
	return []int64{math.MinInt32, math.MinInt32 + 1, -5, -1, 0, 1, 4, 5, 6, math.MaxInt32 - 1, math.MaxInt32}
}

// eachCells goes through all cells of the kind that are made of edges.
func (k kindRow) eachCells(do func(cells []int64)) {
	var on func(cells []int64)
	on = func(cells []int64) {
		if len(cells) == len(k.types) {
			do(slices.Clone(cells))
			return
		}
		for _, n := range edgesOf(k.types[len(cells)]) {
			on(append(cells, n))
		}
	}
	on(nil)
}

var someTimes = []int64{0, 1, 4, 5, 6, 1 << 30, math.MaxInt32 - 1, math.MaxInt32}

// 12.1: all kinds, with all cells that are made of edges, at some times
func TestStepIsAsTheWordsSay(t *testing.T) {
	for _, k := range kinds {
		k.eachCells(func(cells []int64) {
			for _, now := range someTimes {
				want := k.behind(cells, now)
				if got, e := block.Step(k.kind, cells, now); !slices.Equal(got, want) || e != api.OK {
					t.Fatalf("%s %v at %d: %v, %d, want %v", k.name, cells, now, got, e, want)
				}
			}
		})
	}
}

// anyOf answers a value of a type, one of its edges or any.
func anyOf(r *rand.Rand, typ int) int64 {
	edges := edgesOf(typ)
	if r.Intn(3) > 0 {
		return edges[r.Intn(len(edges))]
	}
	least, most := edges[0], edges[len(edges)-1]
	return least + r.Int63n(most-least+1)
}

func (k kindRow) anyCells(r *rand.Rand) []int64 {
	var l []int64
	for _, typ := range k.types {
		l = append(l, anyOf(r, typ))
	}
	return l
}

// anyCalls answers up to most calls, at times that go on, or do not.
func (k kindRow) anyCalls(r *rand.Rand, most int) []block.Call {
	calls := make([]block.Call, r.Intn(most+1))
	now := someTimes[r.Intn(len(someTimes))]
	for i := range calls {
		now = min(now+r.Int63n(3), math.MaxInt32)
		if r.Intn(20) == 0 {
			now = someTimes[r.Intn(len(someTimes))]
		}
		calls[i].Now = now
		for j := range r.Intn(k.set + 1) {
			calls[i].In = append(calls[i].In, anyOf(r, k.types[j]))
		}
	}
	return calls
}

// ran answers the cells behind all calls, by the chapter's words.
func (k kindRow) ran(cells []int64, calls []block.Call) []int64 {
	at := slices.Clone(cells)
	for _, c := range calls {
		for i, n := range c.In {
			at[i] = n
		}
		at = k.behind(at, c.Now)
	}
	return at
}

// 12.2: any cells, any calls; the cells behind each call are those of Step, too
func TestRunIsAsTheWordsSay(t *testing.T) {
	r := rand.New(rand.NewSource(12))
	for range 40000 {
		k := kinds[r.Intn(len(kinds))]
		cells, calls := k.anyCells(r), k.anyCalls(r, 12)
		want := k.ran(cells, calls)
		if got, e := block.Run(k.kind, cells, calls); !slices.Equal(got, want) || e != api.OK {
			t.Fatalf("%s %v, %v: %v, %d, want %v", k.name, cells, calls, got, e, want)
		}
		at := slices.Clone(cells)
		for _, c := range calls {
			copy(at, c.In)
			at, _ = block.Step(k.kind, at, c.Now)
		}
		if !slices.Equal(at, want) {
			t.Fatalf("%s %v, %v: %v by steps, want %v", k.name, cells, calls, at, want)
		}
	}
}

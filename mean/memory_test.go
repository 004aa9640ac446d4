package mean_test

import (
	"fmt"
	"math/rand"
	"slices"
	"strings"
	"sync"
	"testing"

	"capstan/api"
	"capstan/mean"
)

// whole has statements of each kind.
const whole = `n := n + 1 + 2; x[n] := x[1 + 2]; if b then n := 1; elsif i then n := 2; else n := 3; end_if; while n < 3 do n := n + 1; if n = 2 then exit; end_if; end_while; repeat n := n - 1; until n < 2 or t.q end_repeat;
	for d := 1 to 3 by 2 do on := on + 7 / (on + 1); end_for; case n of 1, -2: n := 1; 3: else n := 2; end_case; t(in := not b, pt := t#5s); q(a := b); if on > 20 then return; end_if; x[n - 1] := 7 / n; x[on] := 5;`

var (
	oddPart = api.Part{Kind: 77, N: 77, T: 77, S: "ODD", F: "ODD"}
	odd     = api.Stmt{Kind: 77, Name: "ODD"}
)

// roomyParts answers the parts with odd ones in the room behind them; the others do so of what they hold.
func roomyParts(l []api.Part) []api.Part {
	return append(slices.Clone(l), oddPart, oddPart)[:len(l)]
}

func roomyStmts(l []api.Stmt) []api.Stmt {
	out := slices.Clone(l)
	for i := range out {
		s := &out[i]
		s.Index, s.X, s.Y = roomyParts(s.Index), roomyParts(s.X), roomyParts(s.Y)
		s.Body, s.Else = roomyStmts(s.Body), roomyStmts(s.Else)
		s.Arms = append(slices.Clone(s.Arms), api.Arm{Body: []api.Stmt{odd}})[:len(s.Arms)]
		for k := range s.Arms {
			s.Arms[k].Labels = append(slices.Clone(s.Arms[k].Labels), 1, 1, 99999)[:len(s.Arms[k].Labels)]
			s.Arms[k].Body = roomyStmts(s.Arms[k].Body)
		}
		s.Args = append(slices.Clone(s.Args), api.Arg{Name: "ODD"})[:len(s.Args)]
		for k := range s.Args {
			s.Args[k].X = roomyParts(s.Args[k].X)
		}
	}
	return append(out, odd, odd)[:len(l)]
}

func roomy(p api.Program) api.Program {
	p.Vars = append(slices.Clone(p.Vars), api.Var{}, api.Var{Name: "N", Type: 9, Len: 9})[:len(p.Vars)]
	p.Body = roomyStmts(p.Body)
	return p
}

// wideOf answers what l holds up to the end of its room.
func wideOf[T any](l []T) []T { return l[:cap(l)] }

// fill writes over all of a list, spare room too.
func fill[T any](l []T, with T) {
	for k := range wideOf(l) {
		wideOf(l)[k] = with
	}
}

// seen tells all of a program, spare room too.
func seen(p api.Program) string {
	var b strings.Builder
	fmt.Fprintf(&b, "%q %+v ", p.Name, wideOf(p.Vars))
	var stmts func(l []api.Stmt)
	stmts = func(l []api.Stmt) {
		fmt.Fprint(&b, len(l), "{")
		for _, s := range wideOf(l) {
			fmt.Fprintf(&b, "%d %q %d:%+v %d:%+v %d:%+v %d", s.Kind, s.Name, len(s.Index), wideOf(s.Index), len(s.X), wideOf(s.X), len(s.Y), wideOf(s.Y), s.By)
			stmts(s.Body)
			stmts(s.Else)
			fmt.Fprint(&b, len(s.Arms))
			for _, a := range wideOf(s.Arms) {
				fmt.Fprintf(&b, "%d:%+v", len(a.Labels), wideOf(a.Labels))
				stmts(a.Body)
			}
			fmt.Fprint(&b, len(s.Args))
			for _, a := range wideOf(s.Args) {
				fmt.Fprintf(&b, "%q %d:%+v", a.Name, len(a.X), wideOf(a.X))
			}
		}
		fmt.Fprint(&b, "}")
	}
	stmts(p.Body)
	return b.String()
}

// R4: programs and cells that are handed in stay, spare room too, and what lies behind lengths is not read
func TestProgramStays(t *testing.T) {
	wrong := program(whole)
	wrong.Body = append(wrong.Body, api.Stmt{Kind: api.SExit})
	for what, p := range map[string]api.Program{"right": program(whole), "wrong": wrong, "none": program(""), "nothing": {}, "another": program(strings.Join(bodies[:12], " "))} {
		given := roomy(p)
		before := seen(given)
		for _, budget := range []int{0, 7, 40, 90, 400, -1} {
			all := append(cellsOf("n=-4 on=-3"), 77, 78)
			end, at, e := mean.Scan(given, all[:97], 5, budget)
			if seen(given) != before {
				t.Fatalf("%s: changed: %s, not %s", what, seen(given), before)
			}
			if !slices.Equal(all, append(cellsOf("n=-4 on=-3"), 77, 78)) {
				t.Errorf("%s: the cells are changed: %v", what, all)
			}
			want, wantAt, wantE := mean.Scan(p, cellsOf("n=-4 on=-3"), 5, budget)
			if at != wantAt || e != wantE || end.Used != want.Used || end.Trap != want.Trap || !slices.Equal(end.Cells, want.Cells) {
				t.Errorf("%s: with room behind %v, %d, %d, without %v, %d, %d", what, end, at, e, want, wantAt, wantE)
			}
		}
	}
}

// R4: what Scan hands back is the caller's own, spare room too
func TestEndIsTheCallers(t *testing.T) {
	for _, body := range []string{whole, "", "return;", "while true do end_while;", "n := n + 1;", "n := 7 / 0;"} {
		p := program(body)
		for _, budget := range []int{0, 1, 5, 50, 400} {
			cells := cellsOf("n=-4 on=-3")
			one, _, _ := mean.Scan(p, cells, 5, budget)
			two, _, _ := mean.Scan(p, cells, 5, budget)
			want := slices.Clone(one.Cells)
			fill(cells, 1)
			fill(two.Cells, 77)
			if !slices.Equal(one.Cells, want) {
				t.Errorf("%s: the cells are shared: %v", body, one.Cells)
			}
			fill(one.Cells, 5)
			if s := seen(p); s != seen(program(body)) {
				t.Errorf("%s: the program is changed: %s", body, s)
			}
		}
	}
}

// R4: variables, cells and parts that are handed to Worth stay, spare room too
func TestPartsStay(t *testing.T) {
	for _, c := range []struct {
		x string
		t int
	}{{"5", api.TInt}, {"n", api.TInt}, {"n + 1 + 2", api.TInt}, {"x[1 + 2] * (3 + 4)", api.TInt}, {"t.q and (1 < 2)", api.TBool}, {"to_int(7 / 0)", api.TInt}, {"x[n]", api.TInt}, {"n + d", api.TInt}, {"nobody", api.TInt}} {
		x := roomyParts(parts(c.x))
		l := append(slices.Clone(vars), api.Var{}, api.Var{Name: "NOBODY", Type: api.TInt})[:len(vars)]
		cells := append(cellsOf("n=4"), 77, 78)
		before, varsBefore := slices.Clone(wideOf(x)), slices.Clone(wideOf(l))
		n, trap, e := mean.Worth(l, cells[:97], x, c.t)
		if !slices.Equal(wideOf(x), before) || !slices.Equal(wideOf(l), varsBefore) || !slices.Equal(cells, append(cellsOf("n=4"), 77, 78)) {
			t.Errorf("%s: something is changed", c.x)
		}
		if wantN, wantTrap, wantE := mean.Worth(vars, cellsOf("n=4"), parts(c.x), c.t); n != wantN || trap != wantTrap || e != wantE {
			t.Errorf("%s: with room behind %d, %d, %d, without %d, %d, %d", c.x, n, trap, e, wantN, wantTrap, wantE)
		}
	}
}

// emptied answers statements whose lists without an element are empty, not nil.
func emptied(l []api.Stmt) []api.Stmt {
	out := append([]api.Stmt{}, l...)
	for i := range out {
		s := &out[i]
		for _, x := range []*[]api.Part{&s.Index, &s.X, &s.Y} {
			*x = append([]api.Part{}, *x...)
		}
		s.Body, s.Else = emptied(s.Body), emptied(s.Else)
		s.Arms, s.Args = append([]api.Arm{}, s.Arms...), append([]api.Arg{}, s.Args...)
		for k := range s.Arms {
			s.Arms[k].Body = emptied(s.Arms[k].Body)
		}
	}
	return out
}

// R3: lists without an element, nil or empty
func TestNilAndEmpty(t *testing.T) {
	for _, body := range append(bodies, whole, "if b then end_if;", "if b then else end_if;", "while b do end_while;", "case n of 0: else end_case; case n of end_case;", "t();") {
		p := program(body)
		l := played(p, cellsOf("b=1 n=-4 on=-3"), 5, 60)
		p.Body = emptied(p.Body)
		for budget, want := range l {
			ends(t, p, cellsOf("b=1 n=-4 on=-3"), 5, budget, want)
		}
	}
	for _, p := range []api.Program{{Name: "P"}, {Name: "P", Vars: []api.Var{}, Body: []api.Stmt{}}} {
		for _, cells := range [][]int64{nil, {}} {
			ends(t, p, cells, 0, 5, mean.End{Used: 1, Trap: api.TDone})
			ends(t, p, cells, 0, 0, mean.End{Used: 0, Trap: api.TBudget})
		}
	}
}

// R7: the same call tells the same, whatever is asked between, and from however many at once
func TestSameAgain(t *testing.T) {
	r := rand.New(rand.NewSource(172))
	type call struct {
		p      api.Program
		cells  []int64
		now    int64
		budget int
		want   mean.End
	}
	var calls []call
	for _, body := range []string{whole, "", "while true do n := n + 1; end_while;", "x[n] := 5;", "n := 7 / n;", "t(in := true, pt := t#5ms);"} {
		p := program(body)
		for _, cells := range [][]int64{cellsOf(""), cellsOf("n=-4 on=-3"), cellsOf("b=1 n=4")} {
			for _, budget := range []int{0, 3, 5, 20, 90, 300} {
				now := int64(r.Intn(9))
				want, _, e := mean.Scan(p, cells, now, budget)
				if e != api.OK {
					t.Fatal(e)
				}
				calls = append(calls, call{p, cells, now, budget, want})
			}
		}
	}
	for range 1000 {
		c := calls[r.Intn(len(calls))]
		ends(t, c.p, c.cells, c.now, c.budget, c.want)
	}
	x := parts("x[n] / n")
	var at sync.WaitGroup
	for range 8 {
		at.Go(func() {
			for _, c := range calls {
				ends(t, c.p, c.cells, c.now, c.budget, c.want)
				if n, trap, e := mean.Worth(vars, c.cells, x, api.TInt); e != api.OK || n != 0 || trap == api.TDone {
					t.Error(n, trap, e)
				}
			}
		})
	}
	at.Wait()
}

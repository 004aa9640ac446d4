package ilist_test

import (
	"slices"
	"testing"

	"capstan/api"
	"capstan/gen"
	"capstan/vm"
)

// scanned answers the cells behind a scan of the image, from these on.
func scanned(t *testing.T, x api.Image, cells []int64, now int64) vm.End {
	t.Helper()
	m, at, e := vm.New(x)
	if e != api.OK {
		t.Fatal(at, e)
	}
	if cells == nil {
		cells = m.First()
	}
	end, e := m.Scan(cells, now, api.MaxTicks)
	if e != api.OK {
		t.Fatal(e)
	}
	return end
}

// 18.1, 18.2: the chapter's example counts up to 10
func TestExampleRuns(t *testing.T) {
	x := made(t, "PROGRAM p VAR n : INT; END_VAR END_PROGRAM", "again: LD n ADD 1 ST n LD n LT 10 JMPC again")
	end := scanned(t, x, nil, 0)
	if !slices.Equal(end.Cells, []int64{10}) || end.Used != 9*10+1 || end.Trap != api.TDone {
		t.Error(end)
	}
}

// W2: lists do what statements that mean the same do
func TestRunsAsStatements(t *testing.T) {
	const vars = "program p var n : int := 7; m : int := -3; d : dint := 100000; e : time := t#5s; b : bool := true; c : bool; t : ton; u : ctu; end_var "
	for lines, body := range map[string]string{
		"LD n ADD m MUL 2 ST n":                                    "n := (n + m) * 2;",
		"LD n DIV m ST n LD n MOD 3 NEG ST m":                      "n := n / m; m := - (n mod 3);",
		"LD n SUB 7 ST n LD m DIV n ST m":                          "n := n - 7; m := m / n;",
		"LD d GT 5 ANDN c ORN b ST c":                              "c := (d > 5) and not c or not b;",
		"LD b XOR TRUE NOT ST b LD n AND 6 OR 8 XOR 1 ST n":        "b := not (b xor true); n := ((n and 6) or 8) xor 1;",
		"LD b S c LD c R b LD c S b":                               "if b then c := true; end_if; if c then b := false; end_if; if c then b := true; end_if;",
		"LD b JMPC l LD 1 ST n l: LD c JMPCN k RET k: LD 2 ST m":   "if not b then n := 1; end_if; if c then return; end_if; m := 2;",
		"l: LD n LE 0 JMPC k LD n SUB 1 ST n JMP l k:":             "while not (n <= 0) do n := n - 1; end_while;",
		"LD b ST t.in LD e ST t.pt CAL t LD t.q ST c LD t.et ST e": "t(in := b, pt := e); c := t.q; e := t.et;",
		"LD b ST u.cu LD 1 ST u.pv CAL u LD u.cv ST n LD u.q ST c": "u(cu := b, pv := 1); n := u.cv; c := u.q;",
		"LD e ADD T#1s GE T#6s ST c LD e NE T#5s ST b":             "c := e + t#1s >= t#6s; b := e <> t#5s;",
		"LD d EQ 100000 ST b LD n LT m ST c":                       "b := d = 100000; c := n < m;",
	} {
		list := made(t, vars+"end_program", lines)
		source, _, e := gen.Compile(vars + body + " end_program")
		if e != api.OK {
			t.Fatal(body, e)
		}
		var cells []int64
		for now := range int64(4) {
			got, want := scanned(t, list, cells, now*3000), scanned(t, source, cells, now*3000)
			if !slices.Equal(got.Cells, want.Cells) || got.Trap != want.Trap {
				t.Errorf("%s: %v, %d, want %v, %d", lines, got.Cells, got.Trap, want.Cells, want.Trap)
			}
			cells = got.Cells
		}
	}
}

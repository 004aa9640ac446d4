package verify_test

import (
	"fmt"
	"strings"
	"testing"

	"capstan/api"
	"capstan/num"
	"capstan/verify"
)

// effect is what an instruction takes (a word for each value, the lowest first: the types that it may have), and what it leaves.
type effect struct{ text, takes, leaves string }

// effects are instructions of each kind with what they take and leave. A jump in them goes to the place behind them.
func effects() []effect {
	l := []effect{
		{"push B", "", "B"}, {"push I", "", "I"}, {"push D", "", "D"}, {"push T", "", "T"},
		{"load 0", "", "B"}, {"load 1", "", "I"}, {"load 2", "", "D"}, {"load 3", "", "T"}, {"load 7", "", "I"}, {"load 14", "", "T"}, {"load 31", "", "D"},
		{"store 0", "B", ""}, {"store 1", "I", ""}, {"store 2", "D", ""}, {"store 3", "T", ""}, {"store 7", "I", ""}, {"store 14", "T", ""}, {"store 31", "D", ""},
		{"loadx 4 2", "ID", "B"}, {"loadx 6 3", "ID", "I"}, {"loadx 9 2", "ID", "D"}, {"loadx 11 2", "ID", "T"}, {"loadx 1 1", "ID", "I"},
		{"storex 4 2", "ID B", ""}, {"storex 6 3", "ID I", ""}, {"storex 9 2", "ID D", ""}, {"storex 11 2", "ID T", ""}, {"storex 3 1", "ID T", ""},
		{"call 1 13", "", ""}, {"call 4 19", "", ""}, {"call 8 25", "", ""}, {"call 10 28", "", ""},
		{"jump @", "", ""}, {"false @", "B", ""},
	}
	for n, op := range ops {
		for _, y := range strings.Split(letters, "") {
			made, e := num.Result(n+1, typeOf(y))
			switch {
			case e != api.OK:
			case n+1 >= api.NNeg:
				l = append(l, effect{"one " + op + " " + y, y, y})
			default:
				l = append(l, effect{"two " + op + " " + y, y + " " + y, letter(made)})
			}
		}
	}
	for _, from := range strings.Split("IDT", "") {
		for _, to := range strings.Split("IDT", "") {
			l = append(l, effect{"to " + from + " " + to, from, to})
		}
	}
	return append(l, effect{"to B B", "B", "B"})
}

// 15.1: the table of effects says of comparisons, operations and conversions what the chapter does
func TestEffectsThemselves(t *testing.T) {
	want := map[string]string{"two + I": "I I I", "two = D": "D D B", "two < T": "T T B", "two >= I": "I I B", "two <> B": "B B B", "two xor B": "B B B", "two mod D": "D D D", "two - T": "T T T", "one neg T": "T T", "one not B": "B B", "one not D": "D D", "to I T": "I T", "to T D": "T D"}
	all := effects()
	for _, f := range all {
		if w, is := want[f.text]; is {
			if got := f.takes + " " + f.leaves; got != w {
				t.Errorf("%s: %s", f.text, got)
			}
			delete(want, f.text)
		}
	}
	if len(want) > 0 || len(all) != 34+3+3+2+2+2+3+3+3+4+4+3+3+3+3+3+3+9+1 {
		t.Error(len(all), want)
	}
}

// stacks answers all stacks of up to so many values.
func stacks(most int) []string {
	l := []string{""}
	for from := 0; len(l[len(l)-1]) < most; {
		to := len(l)
		for _, s := range l[from:to] {
			for _, y := range strings.Split(letters, "") {
				l = append(l, s+y)
			}
		}
		from = to
	}
	return l
}

// pushes answers code that lays the stack there, stores such that takes it all.
func pushes(stack string) string {
	s := ""
	for _, y := range stack {
		s += "push " + string(y) + "; "
	}
	return s
}

func stores(stack string) string {
	s := ""
	for n := len(stack) - 1; n >= 0; n-- {
		s += fmt.Sprintf("store %d; ", typeOf(stack[n:n+1])-1)
	}
	return s
}

// rest answers what is below that which an instruction takes, or false, if it does not find that.
func rest(stack, takes string) (string, bool) {
	words := strings.Fields(takes)
	if len(stack) < len(words) {
		return "", false
	}
	below := stack[:len(stack)-len(words)]
	for n, may := range words {
		if !strings.Contains(may, stack[len(below)+n:len(below)+n+1]) {
			return "", false
		}
	}
	return below, true
}

// 15.1: each instruction with each stack of up to three values: too little, another type at each place, just what it takes, more below; and that just what it leaves lies there behind it
func TestTakesAndLeaves(t *testing.T) {
	for _, f := range effects() {
		right := 0
		for _, s := range stacks(3) {
			text := pushes(s) + strings.Replace(f.text, "@", fmt.Sprint(len(s)+1), 1) + "; "
			below, is := rest(s, f.takes)
			if !is {
				refuses(t, text+"end", len(s), api.ErrStack)
				continue
			}
			right++
			left := below + f.leaves
			all := len(s) + 1 + len(left)
			passes(t, text+stores(left)+"end", max(len(s), len(left)), strings.Repeat("1", all+1))
			refuses(t, text+stores(left)+"store 0; end", all, api.ErrStack)
			for _, y := range []string{"B", "I", "D", "T"} {
				if left != "" && y != left[len(left)-1:] {
					refuses(t, text+stores(y)+"end", len(s)+1, api.ErrStack)
				}
			}
		}
		if right == 0 {
			t.Errorf("%s is never right", f.text)
		}
	}
}

// 15.1: too little, and other types, of what takes two, one by one
func TestTakesTwo(t *testing.T) {
	refuses(t, "two + I; end", 0, api.ErrStack)
	refuses(t, "push I; two + I; end", 1, api.ErrStack)
	refuses(t, "push D; push I; two + I; end", 2, api.ErrStack)
	refuses(t, "push I; push D; two + I; end", 2, api.ErrStack)
	passes(t, "push I; push I; two + I; end", 2, "1111")
	passes(t, "push T; push I; push I; two + I; end", 3, "11111")
	refuses(t, "storex 6 3; end", 0, api.ErrStack)
	refuses(t, "push I; storex 6 3; end", 1, api.ErrStack)
	refuses(t, "push T; push I; storex 6 3; end", 2, api.ErrStack)
	refuses(t, "push B; push I; storex 6 3; end", 2, api.ErrStack)
	refuses(t, "push I; push T; storex 6 3; end", 2, api.ErrStack)
	passes(t, "push D; push I; storex 6 3; end", 2, "1111")
	// the index lies below, whatever the cells are
	passes(t, "push I; push B; storex 4 2; end", 2, "1111")
	refuses(t, "push B; push I; storex 4 2; end", 2, api.ErrStack)
	passes(t, "push I; push D; storex 9 2; end", 2, "1111")
	passes(t, "push D; push D; storex 9 2; end", 2, "1111")
	refuses(t, "push D; push I; storex 9 2; end", 2, api.ErrStack)
	refuses(t, "push T; push T; storex 11 2; end", 2, api.ErrStack)
}

// 15.1: an index of TInt, of TDint, and of other types
func TestIndexes(t *testing.T) {
	for _, array := range []string{"4 2", "6 3", "9 2", "11 2"} {
		passes(t, "push I; loadx "+array+"; end", 1, "111")
		passes(t, "push D; loadx "+array+"; end", 1, "111")
		refuses(t, "push B; loadx "+array+"; end", 1, api.ErrStack)
		refuses(t, "push T; loadx "+array+"; end", 1, api.ErrStack)
		refuses(t, "loadx "+array+"; end", 0, api.ErrStack)
	}
}

// the chapter's examples
func TestExamples(t *testing.T) {
	passes(t, "push I; end", 1, "11")
	refuses(t, "two + I; end", 0, api.ErrStack)
	refuses(t, "push I", 0, api.ErrJump)
	passes(t, "load 0; false 0; end", 1, "111")
}

// 15.1: values of pushes do not matter, their types do
func TestValuesDoNotMatter(t *testing.T) {
	for _, n := range []int64{-32768, -1, 0, 1, 32767} {
		x := image("push I; store 1; end")
		x.Code[0].N = n
		x.First[1] = n
		tells(t, x, outcome{deep: 1, reached: "111"})
	}
	x := image("push B; false 0; end")
	tells(t, x, outcome{deep: 1, reached: "111"})
	x.Code[0].N = 1
	if at, e := verify.Check(x); at != 0 || e != api.OK {
		t.Error(at, e)
	}
}

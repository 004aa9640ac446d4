package verify_test

import (
	"fmt"
	"math/rand"
	"strings"
	"testing"
	"time"

	"capstan/api"
	"capstan/verify"
)

// full answers code that lays as much there as may lie there, of which these are the topmost.
func full(top string) string {
	return strings.Repeat("push T; ", api.MaxStack-len(top)) + pushes(top)
}

// 15.1: a stack of MaxStack, and of one more
func TestMostOnTheStack(t *testing.T) {
	for many := 1; many <= api.MaxStack; many++ {
		passes(t, strings.Repeat("push I; ", many)+"end", many, strings.Repeat("1", many+1))
		passes(t, strings.Repeat("load 3; ", many)+strings.Repeat("store 3; ", many)+"end", many, strings.Repeat("1", 2*many+1))
	}
	for _, many := range []int{65, 66, 100, 1000} {
		refuses(t, strings.Repeat("push I; ", many)+"end", 64, api.ErrStack)
		refuses(t, strings.Repeat("load 3; ", many)+"end", 64, api.ErrStack)
		refuses(t, "push I; store 1; "+strings.Repeat("load 3; ", many)+"end", 66, api.ErrStack)
	}
	refuses(t, strings.Repeat("push I; ", 64)+"jump 66; end; push I; end", 66, api.ErrStack)
	refuses(t, strings.Repeat("push B; ", 64)+"false 66; push B; end", 66, api.ErrStack)
	// a loop that lays one more there each time is another stack the second time
	refuses(t, "push I; jump 0", 0, api.ErrStack)
}

// 15.1: each instruction at a full stack: only what leaves more than it takes is refused, and what finds another type
func TestAtAFullStack(t *testing.T) {
	for _, f := range effects() {
		top := strings.ReplaceAll(strings.ReplaceAll(f.takes, "ID", "I"), " ", "")
		text := full(top) + strings.Replace(f.text, "@", "65", 1) + "; end"
		if f.takes == "" && f.leaves != "" {
			refuses(t, text, 64, api.ErrStack)
			continue
		}
		passes(t, text, 64, strings.Repeat("1", 66))
		if f.takes != "" {
			other := "T"
			if top[len(top)-1:] == "T" {
				other = "B"
			}
			refuses(t, full(other)+strings.Replace(f.text, "@", "65", 1)+"; end", 64, api.ErrStack)
		}
	}
}

// 15.1: full stacks that differ in one place are others, those that differ in none are the same
func TestFullStacksCompared(t *testing.T) {
	text := func(first, second string) string {
		return fmt.Sprintf("load 0; false %d; %sjump %d; %send", 3+len(first), pushes(first), 3+len(first)+len(second), pushes(second))
	}
	same := strings.Repeat("BIDT", 16)
	passes(t, text(same, same), 64, strings.Repeat("1", 132))
	for at := range same {
		other := strings.Split(same, "")
		other[at] = letter(typeOf(other[at])%4 + 1)
		refuses(t, text(same, strings.Join(other, "")), 131, api.ErrStack)
		refuses(t, text(strings.Join(other, ""), same), 131, api.ErrStack)
	}
	refuses(t, text(same[:63], same), 130, api.ErrStack)
	refuses(t, text(same, same[:63]), 130, api.ErrStack)
	refuses(t, text("", same), 67, api.ErrStack)
	refuses(t, text(same, ""), 67, api.ErrStack)
}

// 15.1: the stack is what lies there now: what lay above it ahead is gone
func TestWhatIsTakenIsGone(t *testing.T) {
	passes(t, "load 0; false 6; push I; push D; store 2; jump 7; push I; end", 2, strings.Repeat("1", 8))
	passes(t, "load 0; false 5; load 3; store 3; jump 5; end", 1, strings.Repeat("1", 6))
	passes(t, "load 0; false 7; push D; push D; two < D; false 7; jump 7; end", 2, strings.Repeat("1", 8))
	passes(t, "load 0; false 10; "+"push I; push B; storex 4 2; push I; loadx 11 2; store 3; call 8 25; jump 10; end", 2, strings.Repeat("1", 11))
	passes(t, full("")+strings.Repeat("store 3; ", 64)+"jump 0", 64, strings.Repeat("1", 129))
}

// many answers an image of MaxCode instructions, of which the function tells each.
func many(of func(at int) api.Instr) api.Image {
	var l []api.Instr
	for at := range api.MaxCode {
		l = append(l, of(at))
	}
	return imageOf(laid, l)
}

// 15.1, 15.2, P1: as many instructions as may be, with many jumps, in a bounded time
func TestLongestCode(t *testing.T) {
	const last = api.MaxCode - 1
	load, end := api.Instr{Op: api.ILoad}, api.Instr{Op: api.IEnd}
	jump := func(to int) api.Instr { return api.Instr{Op: api.IJump, A: to} }
	unless := func(to int) api.Instr { return api.Instr{Op: api.IFalse, A: to} }
	pairs := func(to func(at int) int) api.Image { // loads, and FALSEs behind them, to even places
		return many(func(at int) api.Instr {
			switch {
			case at >= last-1:
				return end
			case at%2 == 0:
				return load
			}
			return unless(to(at))
		})
	}
	r := rand.New(rand.NewSource(15))
	images := map[string]api.Image{
		"all behind one another": many(func(at int) api.Instr {
			if at == last {
				return end
			}
			return api.Instr{Op: api.ICall, A: api.BSr, B: 25}
		}),
		"one jump back each": many(func(at int) api.Instr {
			switch at {
			case 0:
				return jump(last)
			case 1:
				return end
			}
			return jump(at - 1)
		}),
		"to and fro":            many(func(at int) api.Instr { return jump(last - at) }),
		"falses to the end":     pairs(func(int) int { return last }),
		"falses to the begin":   pairs(func(int) int { return 0 }),
		"falses far ahead":      pairs(func(at int) int { return (at + last) / 4 * 2 }),
		"falses just ahead":     pairs(func(at int) int { return min(at+3, last-1) / 2 * 2 }),
		"falses just behind":    pairs(func(at int) int { return max(at-3, 0) / 2 * 2 }),
		"falses anywhere":       pairs(func(int) int { return r.Intn(last/2) * 2 }),
		"falses to their loads": pairs(func(at int) int { return at - 1 }),
		"falses from the end on": many(func(at int) api.Instr { // each place that is looked at has only ones ahead of it waiting
			switch {
			case at == 0:
				return jump(last - 3)
			case at%4 == 0:
				return load
			case at%4 == 1:
				return unless(max(at-5, 0))
			}
			return end
		}),
		"the last wrong": many(func(at int) api.Instr {
			if at%2 == 0 {
				return load
			}
			return unless(at / 4 * 2)
		}),
	}
	for what, x := range images {
		t.Run(what, func(t *testing.T) {
			begin := time.Now()
			for range 10 {
				verify.Check(x)
				verify.Deep(x)
				verify.Reached(x)
			}
			if took := time.Since(begin); took > 10*time.Second {
				t.Errorf("30 calls took %v", took)
			}
			holds(t, x)
		})
	}
	tells(t, images["one jump back each"], outcome{reached: strings.Repeat("1", api.MaxCode)})
	tells(t, images["falses to the end"], outcome{deep: 1, reached: strings.Repeat("1", api.MaxCode)})
	tells(t, images["falses from the end on"], outcome{deep: 1, reached: "1000" + strings.Repeat("1110", api.MaxCode/4-1)})
	tells(t, images["the last wrong"], outcome{at: last, e: api.ErrJump})
	tells(t, images["to and fro"], outcome{reached: "1" + strings.Repeat("0", last-1) + "1"})
}

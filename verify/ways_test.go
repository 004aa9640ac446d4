package verify_test

import (
	"fmt"
	"slices"
	"strings"
	"testing"

	"capstan/api"
)

// 15.1: the last instruction reached that is neither JUMP nor END, of each kind
func TestBehindTheLast(t *testing.T) {
	for _, f := range effects() {
		s := ""
		for _, may := range strings.Fields(f.takes) {
			s += may[:1]
		}
		text := pushes(s) + strings.Replace(f.text, "@", "0", 1)
		if strings.HasPrefix(f.text, "jump") {
			passes(t, text, 0, "1")
			continue
		}
		refuses(t, text, len(s), api.ErrJump)
		refuses(t, "jump 2; end; "+text, len(s)+2, api.ErrJump)
	}
	passes(t, "end", 0, "1")
	passes(t, "jump 2; end; jump 1", 0, "111")
	refuses(t, "load 0; false 3; end; call 1 13", 3, api.ErrJump)
	// it is the last one, but no way leads there
	passes(t, "end; push I", 0, "10")
	passes(t, "jump 0; load 0; false 0", 0, "100")
}

// 15.1: FALSE as the last one: what is behind it is told, whatever stack its place was reached with
func TestFalseAtTheEnd(t *testing.T) {
	refuses(t, "load 0; false 0", 1, api.ErrJump)
	refuses(t, "load 0; false 1", 1, api.ErrJump)
	refuses(t, "push I; load 0; false 0", 2, api.ErrJump)
	refuses(t, "push I; load 0; false 1", 2, api.ErrJump)
	refuses(t, "push I; load 0; false 2", 2, api.ErrJump)
	refuses(t, "false 0", 0, api.ErrStack)
	refuses(t, "push I; false 0", 1, api.ErrStack)
}

// 15.1: too little, or another type, and too much, are told ahead of what it goes on with
func TestStackAheadOfWays(t *testing.T) {
	for _, last := range []string{"store 1", "loadx 6 3", "two + I", "one neg I", "to I D", "false 0", "storex 6 3"} {
		refuses(t, last, 0, api.ErrStack)
		refuses(t, "push B; push T; "+last, 2, api.ErrStack)
	}
	// the last one, with too much behind it
	refuses(t, strings.Repeat("push I; ", 65), 64, api.ErrStack)
	refuses(t, strings.Repeat("push I; ", 64)+"load 0", 64, api.ErrStack)
	refuses(t, strings.Repeat("push I; ", 64), 63, api.ErrJump)
	// ahead of a place that was reached with another stack
	refuses(t, "load 0; false 5; push D; push D; store 1; end", 4, api.ErrStack)
	refuses(t, "load 0; false 5; push D; push I; false 5; end", 4, api.ErrStack)
	refuses(t, "load 0; false 67; "+strings.Repeat("push I; ", 65)+"end", 66, api.ErrStack)
	refuses(t, "load 0; false 66; "+strings.Repeat("push I; ", 64)+"end", 66, api.ErrStack)
}

// 15.1: JUMP to a place ahead, behind, and to itself
func TestJumps(t *testing.T) {
	passes(t, "jump 0", 0, "1")
	passes(t, "jump 0; end", 0, "10")
	passes(t, "jump 1; end", 0, "11")
	passes(t, "jump 2; end; jump 1", 0, "111")
	passes(t, "jump 2; two + I; end", 0, "101")
	passes(t, "jump 3; store 1; end; push I; jump 1", 1, "11111")
	passes(t, "push I; jump 1", 1, "11")
	passes(t, "push I; push D; jump 2", 2, "111")
	refuses(t, "push I; jump 0", 0, api.ErrStack)
	passes(t, "push I; store 1; jump 0", 1, "111")
	refuses(t, "push I; store 1; jump 1", 1, api.ErrStack)
	passes(t, "jump 4; jump 0; jump 1; jump 2; jump 3", 0, "11111")
	// all that lies there goes along
	passes(t, "push I; push D; jump 4; end; store 2; store 1; end", 2, "1110111")
	refuses(t, "push I; push D; jump 4; end; store 1; store 2; end", 4, api.ErrStack)
}

// 15.1: FALSE to a place ahead, behind, to itself (which never fits), and to the next one
func TestFalses(t *testing.T) {
	passes(t, "load 0; false 3; end; end", 1, "1111")
	passes(t, "load 0; false 2; end", 1, "111")
	passes(t, "load 0; false 0; end", 1, "111")
	passes(t, "load 0; load 0; false 1; end", 2, "1111")
	refuses(t, "load 0; false 1; end", 1, api.ErrStack)
	refuses(t, "load 0; load 0; false 2; end", 2, api.ErrStack)
	refuses(t, "false 0; end", 0, api.ErrStack)
	refuses(t, "load 1; false 0; end", 1, api.ErrStack)
	// both ways have what lies below
	passes(t, "push I; load 0; false 5; store 1; end; store 1; end", 2, "1111111")
	refuses(t, "push I; load 0; false 5; store 1; end; store 2; end", 5, api.ErrStack)
	refuses(t, "push I; load 0; false 5; store 2; end; store 1; end", 3, api.ErrStack)
	refuses(t, "push I; load 0; false 4; store 1; end", 4, api.ErrStack)
}

// 15.1: a place that is reached twice: with the same stack, with one of another depth, and with one of the same depth and other types; the place that is reached is told
func TestReachedTwice(t *testing.T) {
	all := stacks(3)
	for _, s := range all {
		for _, u := range all {
			there := 3 + len(s) + len(u)
			text := fmt.Sprintf("load 0; false %d; %sjump %d; %send", 3+len(s), pushes(s), there, pushes(u))
			if s == u {
				passes(t, text, max(1, len(s)), strings.Repeat("1", there+1))
			} else {
				refuses(t, text, there, api.ErrStack)
			}
		}
	}
	passes(t, "load 0; false 4; push I; jump 5; push I; store 1; end", 1, "1111111")
	refuses(t, "load 0; false 4; push I; jump 5; push D; store 1; end", 5, api.ErrStack)
	refuses(t, "load 0; false 3; push I; end", 3, api.ErrStack)
	refuses(t, "load 0; false 3; jump 4; push I; end", 4, api.ErrStack)
	// places that were looked at
	refuses(t, "call 8 25; call 8 25; push D; jump 1", 1, api.ErrStack)
	refuses(t, "push D; load 0; false 4; end; store 2; push I; jump 1", 1, api.ErrStack)
	passes(t, "push D; load 0; false 4; end; store 2; push D; jump 1", 2, "1111111")
}

// 15.1: of several places to be looked at, the least is looked at first
func TestLeastFirst(t *testing.T) {
	// 4 waits longer than 6, and is less
	refuses(t, "load 0; false 4; jump 6; end; store 1; end; store 1; end", 4, api.ErrStack)
	// 1 is reached behind 5
	refuses(t, "jump 3; store 1; end; load 0; false 1; store 1; end", 1, api.ErrStack)
	refuses(t, "jump 3; store 1; end; load 0; false 1; end; store 1; end", 1, api.ErrStack)
	refuses(t, "jump 3; end; end; load 0; false 1; store 1; end", 5, api.ErrStack)
	// 1 is reached while 7 and 8 wait, and leads to 2
	refuses(t, "jump 3; call 8 25; store 1; load 0; false 8; load 0; false 1; store 1; store 1; end", 2, api.ErrStack)
	// another stack is told where it is reached, ahead of what was not looked at, though that is less
	refuses(t, "load 0; false 7; push I; load 0; false 7; store 0; end; end", 7, api.ErrStack)
	// of an ErrJump and an ErrStack, each can be the one ahead
	refuses(t, "load 0; false 3; store 1; push I", 2, api.ErrStack)
	refuses(t, "jump 3; store 1; end; load 0; false 6; jump 1; push I", 1, api.ErrStack)
	refuses(t, "load 0; false 4; jump 5; end; store 1; push I", 4, api.ErrStack)
	refuses(t, "jump 5; load 0; false 4; jump 8; store 1; load 0; false 1; end; push I", 4, api.ErrStack)
	refuses(t, "load 0; false 3; jump 4; jump 5; push I; push I", 5, api.ErrStack)
	// of an ErrJump at the last place and a wrong one that is reached from there alone
	refuses(t, "jump 2; store 1; load 0; false 1", 3, api.ErrJump)
}

// 15.1: the least is looked at first, however far the places are from one another
func TestLeastFirstFarAway(t *testing.T) {
	places := []int{3, 4, 31, 32, 33, 62, 63, 64, 65, 126, 127, 128, 129, 191, 192, 255, 256, 257, 1000, 1023, 1024, 2047, 2048, 4031, 4032, 4094, 4095}
	for n, low := range places {
		for _, high := range places[n+1:] {
			l := slices.Repeat(instrs("end"), api.MaxCode)
			l[low], l[high] = api.Instr{Op: api.IStore}, api.Instr{Op: api.IStore}
			for _, ways := range [][2]int{{low, high}, {high, low}} {
				copy(l, instrs(fmt.Sprintf("load 0; false %d; jump %d", ways[0], ways[1])))
				tells(t, imageOf(laid, l), outcome{at: low, e: api.ErrStack})
			}
			// the other one is wrong where that one is not
			l[low] = api.Instr{Op: api.IEnd}
			tells(t, imageOf(laid, l), outcome{at: high, e: api.ErrStack})
			l[low] = api.Instr{Op: api.IJump, A: 0}
			l[high] = api.Instr{Op: api.IEnd}
			want := strings.Split("111"+strings.Repeat("0", api.MaxCode-3), "")
			want[low], want[high] = "1", "1"
			tells(t, imageOf(laid, l), outcome{deep: 1, reached: strings.Join(want, "")})
		}
	}
}

// 15.1: the next instruction is reached ahead of FALSE's place
func TestNextFirst(t *testing.T) {
	// both were reached with another stack
	refuses(t, "load 0; false 8; load 0; false 7; push I; load 0; false 8; end; end", 7, api.ErrStack)
	refuses(t, "load 0; false 5; push I; load 0; false 0; end", 5, api.ErrStack)
	// just one of them was
	refuses(t, "push I; load 0; false 0; end", 0, api.ErrStack)
	refuses(t, "load 0; false 5; push I; load 0; false 6; end; end", 5, api.ErrStack)
	refuses(t, "load 0; false 6; push I; load 0; false 6; end; end", 6, api.ErrStack)
	// the place was, while the next one is wrong, which is looked at behind that
	refuses(t, "push I; load 0; false 0; store 0; end", 0, api.ErrStack)
}

// 15.1, 15.3: code that is not reached, and would be wrong if it were
func TestNotReached(t *testing.T) {
	for _, wrong := range []string{"store 1", "two + I", "loadx 6 3", "push B; store 1", "storex 6 3", "to I D", "false 0", "push I; jump 0", "push I; load 0; false 0", strings.Repeat("push I; ", 65) + "end"} {
		many := len(instrs(wrong))
		no := strings.Repeat("0", many)
		passes(t, "end; "+wrong, 0, "1"+no)
		passes(t, "jump 0; "+wrong, 0, "1"+no)
		passes(t, fmt.Sprintf("jump %d; %s; push I; end", many+1, wrong), 1, "1"+no+"11")
		passes(t, fmt.Sprintf("load 0; false %d; end; %s; push I; end", many+3, wrong), 1, "111"+no+"11")
		// the same code is wrong where it is reached
		if w := holds(t, image("jump 1; jump 2; "+wrong)); w.e == api.OK {
			t.Errorf("%s is not wrong", wrong)
		}
	}
	// it reaches nothing, and lays nothing there
	passes(t, "jump 3; push I; jump 3; end", 0, "1001")
	passes(t, "jump 2; jump 3; end; push I", 0, "1010")
	passes(t, "push I; jump 5; push D; push D; push D; end", 1, "110001")
}

// 15.2: how much lies there at most
func TestDeep(t *testing.T) {
	passes(t, "end", 0, "1")
	passes(t, "call 1 13; call 8 25; jump 3; end", 0, "1111")
	passes(t, "push I; push I; end", 2, "111")
	passes(t, "load 0; end", 1, "11")
	passes(t, "push I; loadx 6 3; end", 1, "111")
	passes(t, "push I; push I; storex 6 3; end", 2, "1111")
	passes(t, "push I; push I; two + I; push I; two + I; end", 2, "111111")
	passes(t, "push I; one neg I; to I D; end", 1, "1111")
	// in the midst, at the begin, at the end
	passes(t, "push I; push I; push I; store 1; store 1; store 1; push I; store 1; end", 3, "111111111")
	passes(t, "push I; store 1; push I; push I; push I; store 1; store 1; store 1; end", 3, "111111111")
	passes(t, "push I; store 1; push I; push I; push I; end", 3, "111111")
	// in the branch that FALSE jumps to, in the one that it goes on with
	passes(t, "load 0; false 5; push I; store 1; end; push I; push I; push I; end", 3, "111111111")
	passes(t, "load 0; false 6; push I; push I; push I; end; push I; store 1; end", 3, "111111111")
	passes(t, "jump 5; push I; push I; push I; end; load 0; false 1; end", 3, "11111111")
	// what is not reached is not as deep
	passes(t, "push I; store 1; end; push I; push I; push I; end", 1, "1110000")
	passes(t, "jump 4; push I; push I; push I; end", 0, "10001")
	// in a loop
	passes(t, "load 1; push I; two < I; false 9; load 1; push I; two + I; store 1; jump 0; end", 2, "1111111111")
}

// 15.2: which are reached, with gaps
func TestReached(t *testing.T) {
	passes(t, "jump 2; end; jump 4; end; load 0; false 8; end; end; jump 6", 1, "101011101")
	passes(t, "jump 7; end; jump 5; end; end; end; jump 2; jump 6; end", 0, "101001110")
	passes(t, "end; end; end", 0, "100")
	passes(t, "jump 2; jump 1; jump 0", 0, "101")
	passes(t, "jump 63; "+strings.Repeat("end; ", 62)+"jump 64; jump 65; end; end", 0, "1"+strings.Repeat("0", 62)+"1110")
}

package ilist_test

import (
	"slices"
	"strings"
	"sync"
	"testing"
	"unsafe"

	"capstan/api"
	"capstan/ilist"
)

// whole has lines of each kind.
const whole = "LD n ADD 1 ST n l: LDN b ANDN i S o LD b R o CAL t RET LD t.q JMPC l LD b JMPCN m JMP l m: LD d NEG LT 70000 NOT ST b"

// wide answers what l holds up to the end of its room.
func wide[T any](l []T) []T { return l[:cap(l)] }

// spoil writes over all of a list, spare room too.
func spoil[T any](l []T, with T) {
	for k := range wide(l) {
		wide(l)[k] = with
	}
}

// copied answers an image that shares no list with x.
func copied(x api.Image) api.Image {
	return api.Image{Name: strings.Clone(x.Name), Types: slices.Clone(x.Types), First: slices.Clone(x.First), In: slices.Clone(x.In), Out: slices.Clone(x.Out), Code: slices.Clone(x.Code)}
}

// R4: texts that are handed in stay, and are not kept
func TestTextsStay(t *testing.T) {
	for what, c := range map[string][2]string{
		"right": {head, whole}, "in capitals": {strings.ToUpper(head), strings.ToUpper(whole)}, "wrong line": {head, whole + " LD nobody"}, "no label": {head, whole + " JMP nowhere"}, "no tokens": {head, whole + " #"}, "wrong head": {"program p n := 1; end_program", whole}, "no head": {"", ""}, "short": {"program p end_program", ""},
	} {
		// texts whose bytes can be looked at, and written over
		headBytes, lineBytes := []byte(c[0]), []byte(c[1])
		x, at, e := ilist.Assemble(unsafe.String(unsafe.SliceData(headBytes), len(headBytes)), unsafe.String(unsafe.SliceData(lineBytes), len(lineBytes)))
		if string(headBytes) != c[0] || string(lineBytes) != c[1] {
			t.Errorf("%s: changed", what)
		}
		want := copied(x)
		spoil(headBytes, '#')
		spoil(lineBytes, '#')
		if !same(x, want) {
			t.Errorf("%s: a change of the text changes the image", what)
		}
		if again, againAt, againE := ilist.Assemble(c[0], c[1]); !same(again, want) || againAt != at || againE != e {
			t.Errorf("%s: %d, %d, and then %d, %d", what, at, e, againAt, againE)
		}
	}
}

// R4, R7: no two lists of an answer share memory, nor do two answers; the same call tells the same
func TestAnswersAreNew(t *testing.T) {
	kept := made(t, head, whole)
	want := copied(kept)
	for n := range 5 {
		x := made(t, head, whole)
		left := copied(x)
		switch n {
		case 0:
			spoil(x.Types, 77)
			left.Types = x.Types
		case 1:
			spoil(x.First, 77)
			left.First = x.First
		case 2:
			spoil(x.In, 77)
			left.In = x.In
		case 3:
			spoil(x.Out, 77)
			left.Out = x.Out
		case 4:
			spoil(x.Code, api.Instr{Op: 77})
			left.Code = x.Code
		}
		if !same(x, left) || !same(kept, want) {
			t.Errorf("a change of list %d changes others", n)
		}
		if again := made(t, head, whole); !same(again, want) {
			t.Errorf("otherwise, once list %d is changed", n)
		}
	}
}

// R7: calls at the same time tell what they tell alone
func TestAtTheSameTime(t *testing.T) {
	want := made(t, head, whole)
	var all sync.WaitGroup
	for n := range 8 {
		all.Go(func() {
			for range 50 {
				if x, at, e := ilist.Assemble(head, whole); !same(x, want) || at != 0 || e != api.OK {
					t.Error(n, at, e)
				}
				if x, at, e := ilist.Assemble(head, whole+" l:"); !isNothing(x) || at != len(whole)+1 || e != api.ErrLabel {
					t.Error(n, at, e)
				}
			}
		})
	}
	all.Wait()
}

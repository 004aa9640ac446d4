package fold

import (
	"slices"
	"testing"

	"capstan/api"
)

// The iterator tells each part's place with the values ahead, and ends where the one that goes through it does.
func TestSteps(t *testing.T) {
	num, add := api.Part{Kind: api.PNum}, api.Part{Kind: api.POp, N: api.NAdd}
	x := []api.Part{num, num, add, {Kind: api.PIndex, S: "X"}, num, {Kind: api.POp, N: api.NNeg}, add}
	want := [][]value{nil, nil, {{0, 0}, {1, 1}}, {{0, 2}}, nil, {{4, 4}}, {{0, 3}, {4, 5}}}
	next := 0
	for i, on := range steps(x) {
		if i != next || !slices.Equal(on, want[i]) {
			t.Errorf("step %d, place %d: %v, want %v", next, i, on, want[i])
		}
		next++
	}
	if next != len(x) {
		t.Error(next)
	}
	for i := range steps(x) {
		if i > 2 {
			t.Fatal(i)
		}
		if i == 2 {
			break
		}
	}
}

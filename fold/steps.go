package fold

import (
	"iter"

	"capstan/api"
)

// value is one within an expression: the places of its first part, and of its last one, which makes it.
type value struct {
	first, last int
}

// steps goes through the expression x by the places of its parts, each with what stands ahead of it: the values on which it works.
func steps(x []api.Part) iter.Seq2[int, []value] {
	return func(yield func(int, []value) bool) {
		var ahead []value // those that no part has worked on as yet
		for i, p := range x {
			rest := len(ahead) - worksOn(p)
			on := ahead[rest:]
			if !yield(i, on) {
				return
			}
			made := value{i, i}
			if len(on) > 0 {
				made.first = on[0].first
			}
			ahead = append(ahead[:rest], made)
		}
	}
}

// worksOn answers on how many values the part p works.
func worksOn(p api.Part) int {
	switch {
	case p.Kind == api.PIndex || p.Kind == api.PTo:
		return 1
	case p.Kind != api.POp:
		return 0
	case p.N == api.NNeg || p.N == api.NNot:
		return 1
	}
	return 2
}

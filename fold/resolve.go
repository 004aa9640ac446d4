package fold

import (
	"cmp"
	"slices"
	"strings"

	"capstan/api"
	"capstan/num"
	"capstan/typed"
)

// resolved answers the expression x, which fits t, with a type for each of its numbers.
//
// A value that has no type yet is made of numbers without one and operations alone, since all else has a type. So all its numbers take the type for which it is asked, as soon as a part asks.
func resolved(vars []api.Var, x []api.Part, t int) []api.Part {
	out := copied(x)
	types := make([]int, len(x)) // of the values that the parts make; 0: none yet
	for i, on := range steps(x) {
		var of []int
		for _, v := range on {
			of = append(of, types[v.last])
		}
		types[i] = typeMade(vars, x[i], of)
		for k, v := range on {
			if of[k] == 0 {
				parts := out[v.first : v.last+1]
				give(parts, asked(x[i], of, types[i], parts))
			}
		}
	}
	if types[len(x)-1] == 0 {
		give(out, t)
	}
	return out
}

// typeMade answers the type of what the part p makes of values of these types. Chapter 9 tells it of any values, so numbers stand for them here.
func typeMade(vars []api.Var, p api.Part, of []int) int {
	var x []api.Part
	for _, t := range of {
		x = append(x, api.Part{Kind: api.PNum, T: t})
	}
	t, _ := typed.Type(vars, append(x, p))
	return t
}

// asked answers for which type the part p, which makes one of the type made of values of these types, asks a value (with these parts) that has none yet: 0, if what it makes has none either, so that what that is asked for later holds for both.
func asked(p api.Part, of []int, made int, parts []api.Part) int {
	switch {
	case p.Kind == api.PIndex:
		return indexType(parts)
	case p.Kind == api.PTo:
		return api.TDint
	case made == 0:
		return 0
	}
	return cmp.Or(slices.Max(of), api.TDint)
}

// indexType answers the type for which an index that has none yet is asked.
func indexType(index []api.Part) int {
	for _, p := range index {
		if p.Kind == api.PNum && !num.Fits(api.TInt, p.N) {
			return api.TDint
		}
	}
	return api.TInt
}

// give lets all numbers among the parts of a value that has no type yet have the type t.
func give(parts []api.Part, t int) {
	for i := range parts {
		if parts[i].Kind == api.PNum {
			parts[i].T = t
		}
	}
}

// copied answers parts that share no memory with x, by their names neither.
func copied(x []api.Part) []api.Part {
	out := slices.Clone(x)
	for i := range out {
		out[i].S, out[i].F = strings.Clone(out[i].S), strings.Clone(out[i].F)
	}
	return out
}

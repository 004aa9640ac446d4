package mean

import (
	"capstan/api"
	"capstan/typed"
)

// named is what a variable goes by, or, with a field, that of a block.
type named struct{ name, field string }

// place is where something lies among the cells: from which one on, how many they are, and its type (of an array: of one of it).
type place struct{ first, many, t int }

// placesOf answers where all variables lie, and all fields of blocks.
func placesOf(vars []api.Var) map[named]place {
	places := map[named]place{}
	first := 0
	for _, v := range vars {
		types, _, _ := typed.Cells([]api.Var{v})
		if _, is := places[named{name: v.Name}]; !is { // of two with one name the first one is meant
			places[named{name: v.Name}] = place{first: first, many: len(types), t: v.Type}
			fields, _ := typed.Fields(v.Type - api.Block)
			for n, f := range fields {
				places[named{name: v.Name, field: f.Name}] = place{first: first + n, many: 1, t: f.Type}
			}
		}
		first += len(types)
	}
	return places
}

// element answers the cell of an array with this index, or gives up, if there is none. Of a variable that is no array, 0 is the only one.
func (at place) element(index int64) int {
	if index < 0 || index >= int64(at.many) {
		panic(over(api.TIndex))
	}
	return at.first + int(index)
}

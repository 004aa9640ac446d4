package ilist

import "capstan/api"

// word is what a line begins with.
type word struct {
	name   string
	needs  int  // what stands behind it
	takes  bool // whether there must be a value under way; if not, there must be none
	does   int  // how its code is made
	op     int  // the operation on values that its code has, if the word tells it
	turned bool // whether its code turns a BOOL
	to     int64
}

// What stands behind a word.
const (
	nothing = iota
	anOperand
	aName
)

// How the code of a line is made.
const (
	label = iota
	load
	store
	set
	two
	one
	end
	jump
	branch
	call
)

var words = [...]word{
	{name: "LD", needs: anOperand, does: load},
	{name: "LDN", needs: anOperand, does: load, turned: true},
	{name: "ST", needs: anOperand, takes: true, does: store},
	{name: "S", needs: anOperand, takes: true, does: set, to: 1},
	{name: "R", needs: anOperand, takes: true, does: set, to: 0},
	{name: "AND", needs: anOperand, takes: true, does: two, op: api.NAnd},
	{name: "ANDN", needs: anOperand, takes: true, does: two, op: api.NAnd, turned: true},
	{name: "OR", needs: anOperand, takes: true, does: two, op: api.NOr},
	{name: "ORN", needs: anOperand, takes: true, does: two, op: api.NOr, turned: true},
	{name: "XOR", needs: anOperand, takes: true, does: two, op: api.NXor},
	{name: "ADD", needs: anOperand, takes: true, does: two, op: api.NAdd},
	{name: "SUB", needs: anOperand, takes: true, does: two, op: api.NSub},
	{name: "MUL", needs: anOperand, takes: true, does: two, op: api.NMul},
	{name: "DIV", needs: anOperand, takes: true, does: two, op: api.NDiv},
	{name: "MOD", needs: anOperand, takes: true, does: two, op: api.NMod},
	{name: "GT", needs: anOperand, takes: true, does: two, op: api.NGt},
	{name: "GE", needs: anOperand, takes: true, does: two, op: api.NGe},
	{name: "EQ", needs: anOperand, takes: true, does: two, op: api.NEq},
	{name: "NE", needs: anOperand, takes: true, does: two, op: api.NNe},
	{name: "LE", needs: anOperand, takes: true, does: two, op: api.NLe},
	{name: "LT", needs: anOperand, takes: true, does: two, op: api.NLt},
	{name: "NOT", needs: nothing, takes: true, does: one, op: api.NNot},
	{name: "NEG", needs: nothing, takes: true, does: one, op: api.NNeg},
	{name: "RET", needs: nothing, does: end},
	{name: "JMP", needs: aName, does: jump},
	{name: "JMPC", needs: aName, takes: true, does: branch, turned: true},
	{name: "JMPCN", needs: aName, takes: true, does: branch},
	{name: "CAL", needs: aName, does: call},
}

// wordOf answers the word of lines of this name, and whether there is one.
func wordOf(name string) (word, bool) {
	for _, w := range words {
		if w.name == name {
			return w, true
		}
	}
	return word{}, false
}

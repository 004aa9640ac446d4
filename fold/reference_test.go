package fold_test

import (
	"math/big"
	"slices"

	"capstan/api"
)

// The reference has the chapter's words as they stand: an expression is a tree, each node is asked for a type from the outside on, and then made a number from the inside on, by whole numbers without an end.

var refRanges = map[int][2]int64{api.TBool: {0, 1}, api.TInt: {-32768, 32767}, api.TDint: {-1 << 31, 1<<31 - 1}, api.TTime: {-1 << 31, 1<<31 - 1}}

func refHolds(t int, n int64) bool { return refRanges[t][0] <= n && n <= refRanges[t][1] }

// refOps are the types that each operation is of.
var refOps = map[int64][]int{
	api.NAdd: {2, 3, 4}, api.NSub: {2, 3, 4}, api.NMul: {2, 3}, api.NDiv: {2, 3}, api.NMod: {2, 3},
	api.NAnd: {1, 2, 3}, api.NOr: {1, 2, 3}, api.NXor: {1, 2, 3},
	api.NEq: {1, 2, 3, 4}, api.NNe: {1, 2, 3, 4}, api.NLt: {2, 3, 4}, api.NLe: {2, 3, 4}, api.NGt: {2, 3, 4}, api.NGe: {2, 3, 4},
	api.NNeg: {2, 3, 4}, api.NNot: {1, 2, 3},
}

// refFieldTypes are the fields that the tests' expressions have.
var refFieldTypes = map[string]int{"T.Q": api.TBool, "T.ET": api.TTime, "C.CV": api.TInt, "Q.CV": api.TDint}

func refCompares(op int64) bool { return op >= api.NEq && op <= api.NGe }

// refNode is a part with the nodes that it works on; own is its type ahead of any resolving, 0 if it has none yet.
type refNode struct {
	api.Part
	on  []*refNode
	own int
}

// refTree answers the tree of an expression that is right.
func refTree(vars []api.Var, x []api.Part) *refNode {
	var open []*refNode
	for _, p := range x {
		k := 0
		switch {
		case p.Kind == api.POp && p.N < api.NNeg:
			k = 2
		case p.Kind == api.POp, p.Kind == api.PIndex, p.Kind == api.PTo:
			k = 1
		}
		n := &refNode{Part: p, on: slices.Clone(open[len(open)-k:])}
		n.own = n.typeOf(vars)
		open = append(open[:len(open)-k], n)
	}
	return open[0]
}

func (n *refNode) typeOf(vars []api.Var) int {
	switch n.Kind {
	case api.PNum, api.PTo:
		return n.T
	case api.PField:
		return refFieldTypes[n.S+"."+n.F]
	case api.PVar, api.PIndex:
		return vars[slices.IndexFunc(vars, func(v api.Var) bool { return v.Name == n.S })].Type
	}
	if refCompares(n.N) {
		return api.TBool
	}
	for _, o := range n.on {
		if o.own != 0 {
			return o.own
		}
	}
	return 0
}

// all answers whether something holds of all numbers of no type in a node that has none yet.
func (n *refNode) all(holds func(int64) bool) bool {
	if n.Kind == api.PNum {
		return holds(n.N)
	}
	for _, o := range n.on {
		if !o.all(holds) {
			return false
		}
	}
	return true
}

// resolve lets all numbers within the node have types; ask counts only if it has none yet.
func (n *refNode) resolve(ask int) {
	if n.Kind == api.PNum && n.T == 0 {
		n.T = ask
	}
	for i, o := range n.on {
		other := n.on[len(n.on)-1-i].own
		switch {
		case n.Kind == api.PIndex && o.all(func(k int64) bool { return refHolds(api.TInt, k) }):
			o.resolve(api.TInt)
		case n.Kind == api.PIndex, n.Kind == api.PTo:
			o.resolve(api.TDint)
		case other != 0:
			o.resolve(other)
		case refCompares(n.N):
			o.resolve(api.TDint)
		default:
			o.resolve(ask)
		}
	}
}

// fold answers the node of a tree in which all numbers have types, with what can be reckoned ahead reckoned.
func (n *refNode) fold() *refNode {
	out := &refNode{Part: n.Part}
	numbers := true
	for _, o := range n.on {
		f := o.fold()
		out.on = append(out.on, f)
		numbers = numbers && f.Kind == api.PNum
	}
	if !numbers || n.Kind != api.POp && n.Kind != api.PTo {
		return out
	}
	t := n.T
	if n.Kind == api.POp {
		t = out.on[0].T
	}
	k, ok := refReckon(n, t, out.on)
	if !ok {
		return out
	}
	if n.Kind == api.POp && refCompares(n.N) {
		t = api.TBool
	}
	return &refNode{Part: api.Part{Kind: api.PNum, N: refWrap(t, k), T: t}}
}

// refWrap answers the one number of the type that differs from k by a multiple of how many the type has.
func refWrap(t int, k *big.Int) int64 {
	r := refRanges[t]
	many := big.NewInt(r[1] - r[0] + 1)
	from := new(big.Int).Sub(k, big.NewInt(r[0]))
	return from.Mod(from, many).Int64() + r[0]
}

// refReckon answers what the node makes of numbers of the type t, ahead of wrapping; false, if it is a division by 0.
func refReckon(n *refNode, t int, on []*refNode) (*big.Int, bool) {
	a, b, out := big.NewInt(on[0].N), big.NewInt(on[len(on)-1].N), new(big.Int)
	if n.Kind == api.PTo {
		return a, true
	}
	sign := a.Cmp(b)
	holds := map[int64]bool{api.NEq: sign == 0, api.NNe: sign != 0, api.NLt: sign < 0, api.NLe: sign <= 0, api.NGt: sign > 0, api.NGe: sign >= 0}
	switch n.N {
	case api.NAdd:
		return out.Add(a, b), true
	case api.NSub:
		return out.Sub(a, b), true
	case api.NMul:
		return out.Mul(a, b), true
	case api.NDiv, api.NMod:
		if b.Sign() == 0 {
			return nil, false
		}
		quotient, rest := out.QuoRem(a, b, new(big.Int))
		if n.N == api.NMod {
			return rest, true
		}
		return quotient, true
	case api.NAnd:
		return out.And(a, b), true
	case api.NOr:
		return out.Or(a, b), true
	case api.NXor:
		return out.Xor(a, b), true
	case api.NNeg:
		return out.Neg(a), true
	case api.NNot:
		if t == api.TBool {
			return out.Sub(big.NewInt(1), a), true
		}
		return out.Not(a), true
	}
	if holds[n.N] {
		return big.NewInt(1), true
	}
	return out, true
}

// parts answers the parts of the tree.
func (n *refNode) parts() []api.Part {
	var out []api.Part
	for _, o := range n.on {
		out = append(out, o.parts()...)
	}
	return append(out, n.Part)
}

// refBoth answers the expression x, which fits t, resolved, and folded.
func refBoth(vars []api.Var, x []api.Part, t int) (resolved, folded []api.Part) {
	tree := refTree(vars, x)
	tree.resolve(t)
	return tree.parts(), tree.fold().parts()
}

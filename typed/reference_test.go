package typed_test

import (
	"slices"
	"strings"

	"capstan/api"
)

// The reference has the chapter's words as they stand: fields from its table's text, expressions as trees of which each node is asked for all that could be wrong, statements laid out in a row with the list of what each one's things tell.

var refTypeNames = map[string]int{"BOOL": api.TBool, "INT": api.TInt, "DINT": api.TDint, "TIME": api.TTime}

var refFieldTexts = map[int]string{
	api.BTon:   "IN BOOL, PT TIME | Q BOOL, ET TIME, START TIME, RUN BOOL",
	api.BTof:   "IN BOOL, PT TIME | Q BOOL, ET TIME, START TIME, RUN BOOL",
	api.BTp:    "IN BOOL, PT TIME | Q BOOL, ET TIME, START TIME, RUN BOOL",
	api.BCtu:   "CU BOOL, R BOOL, PV INT | Q BOOL, CV INT, M BOOL",
	api.BCtd:   "CD BOOL, LD BOOL, PV INT | Q BOOL, CV INT, M BOOL",
	api.BRtrig: "CLK BOOL | Q BOOL, M BOOL",
	api.BFtrig: "CLK BOOL | Q BOOL, M BOOL",
	api.BSr:    "S1 BOOL, R BOOL | Q1 BOOL",
	api.BRs:    "S BOOL, R1 BOOL | Q1 BOOL",
	api.BQuad:  "A BOOL, B BOOL, R BOOL | CV DINT, ERR BOOL, LAST INT",
}

type refField struct {
	name string
	t    int
	set  bool
}

func refFields(kind int) []refField {
	var out []refField
	for i, half := range strings.Split(refFieldTexts[kind], " | ") {
		for _, f := range strings.Split(half, ", ") {
			if name, t, ok := strings.Cut(f, " "); ok {
				out = append(out, refField{name, refTypeNames[t], i == 0})
			}
		}
	}
	return out
}

// refFieldOf answers the field of the block v, or one without a type.
func refFieldOf(v api.Var, name string) refField {
	if !refIsBlock(v) {
		return refField{}
	}
	for _, f := range refFields(v.Type - api.Block) {
		if f.name == name {
			return f
		}
	}
	return refField{}
}

// refRanges are the least and the greatest number of each type.
var refRanges = map[int][2]int64{api.TBool: {0, 1}, api.TInt: {-32768, 32767}, api.TDint: {-1 << 31, 1<<31 - 1}, api.TTime: {-1 << 31, 1<<31 - 1}}

func refHolds(t int, n int64) bool { return refRanges[t][0] <= n && n <= refRanges[t][1] }

// refOps are the types that each operation is of.
var refOps = map[int64][]int{
	api.NAdd: {2, 3, 4}, api.NSub: {2, 3, 4}, api.NMul: {2, 3}, api.NDiv: {2, 3}, api.NMod: {2, 3},
	api.NAnd: {1, 2, 3}, api.NOr: {1, 2, 3}, api.NXor: {1, 2, 3},
	api.NEq: {1, 2, 3, 4}, api.NNe: {1, 2, 3, 4}, api.NLt: {2, 3, 4}, api.NLe: {2, 3, 4}, api.NGt: {2, 3, 4}, api.NGe: {2, 3, 4},
	api.NNeg: {2, 3, 4}, api.NNot: {1, 2, 3},
}

func refCompares(op int64) bool { return op >= api.NEq && op <= api.NGe }

func refVar(vars []api.Var, name string) (api.Var, bool) {
	i := slices.IndexFunc(vars, func(v api.Var) bool { return v.Name == name })
	if i < 0 {
		return api.Var{}, false
	}
	return vars[i], true
}

func refIsBlock(v api.Var) bool { return v.Type >= 101 && v.Type <= 110 }

// refNode is a part with the nodes that it works on.
type refNode struct {
	api.Part
	on []*refNode
}

// refNodes answers the nodes of an expression that may be, in the order of its parts.
func refNodes(x []api.Part) []*refNode {
	var all, open []*refNode
	for _, p := range x {
		n := 0
		if p.Kind == api.PIndex || p.Kind == api.PTo || p.Kind == api.POp {
			n = 1
		}
		if p.Kind == api.POp && p.N < api.NNeg {
			n = 2
		}
		node := &refNode{p, slices.Clone(open[len(open)-n:])}
		open = append(open[:len(open)-n], node)
		all = append(all, node)
	}
	return all
}

// typeOf answers the type of a node that is right.
func (n *refNode) typeOf(vars []api.Var) int {
	v, _ := refVar(vars, n.S)
	switch n.Kind {
	case api.PNum, api.PTo:
		return n.T
	case api.PVar, api.PIndex:
		return v.Type
	case api.PField:
		return refFieldOf(v, n.F).t
	}
	if refCompares(n.N) {
		return api.TBool
	}
	for _, o := range n.on {
		if t := o.typeOf(vars); t != 0 {
			return t
		}
	}
	return 0
}

// numbers answers the numbers of no type in a node that are not within an index or a conversion, or beside something that has a type.
func (n *refNode) numbers(vars []api.Var) []int64 {
	if n.Kind == api.PNum && n.T == 0 {
		return []int64{n.N}
	}
	var out []int64
	if n.Kind == api.POp && n.typeOf(vars) == 0 {
		for _, o := range n.on {
			out = append(out, o.numbers(vars)...)
		}
	}
	return out
}

func (n *refNode) allHold(vars []api.Var, t int) bool {
	return !slices.ContainsFunc(n.numbers(vars), func(k int64) bool { return !refHolds(t, k) })
}

// fits answers whether a node that is right fits t.
func (n *refNode) fits(vars []api.Var, t int) api.Errno {
	own := n.typeOf(vars)
	if own == 0 && (t == api.TInt || t == api.TDint) {
		if !n.allHold(vars, t) {
			return api.ErrRange
		}
		return api.OK
	}
	if own != t || own == 0 {
		return api.ErrType
	}
	return api.OK
}

// oneOf answers whether a node that is right has one of these types, or has none yet and fits TDint.
func (n *refNode) oneOf(vars []api.Var, types ...int) api.Errno {
	if own := n.typeOf(vars); own == 0 {
		return n.fits(vars, api.TDint)
	} else if !slices.Contains(types, own) {
		return api.ErrType
	}
	return api.OK
}

// wrong answers what is wrong with a node whose nodes are right.
func (n *refNode) wrong(vars []api.Var) api.Errno {
	v, there := refVar(vars, n.S)
	named := n.Kind == api.PVar || n.Kind == api.PIndex || n.Kind == api.PField
	if named && !there {
		return api.ErrName
	}
	switch {
	case n.Kind == api.PVar && (v.Len != 0 || refIsBlock(v)), n.Kind == api.PIndex && v.Len == 0:
		return api.ErrKind
	case n.Kind == api.PField && (!refIsBlock(v) || refFieldOf(v, n.F).t == 0):
		return api.ErrKind
	case n.Kind == api.PIndex:
		return n.on[0].oneOf(vars, api.TInt, api.TDint)
	case n.Kind == api.PTo:
		return n.on[0].oneOf(vars, api.TInt, api.TDint, api.TTime)
	case n.Kind == api.POp:
		return n.wrongOp(vars)
	}
	return api.OK
}

func (n *refNode) wrongOp(vars []api.Var) api.Errno {
	var types []int
	for _, o := range n.on {
		types = append(types, o.typeOf(vars))
	}
	slices.Sort(types)
	types = slices.Compact(types)
	mixed := types[0] == 0 && len(types) > 1
	if mixed {
		types = types[1:]
	}
	t := types[0]
	if t == 0 {
		t = api.TDint
	}
	if len(types) > 1 || !slices.Contains(refOps[n.N], t) || mixed && t != api.TInt && t != api.TDint {
		return api.ErrType
	}
	if mixed || types[0] == 0 && refCompares(n.N) {
		for _, o := range n.on {
			if !o.allHold(vars, t) {
				return api.ErrRange
			}
		}
	}
	return api.OK
}

// refRoot answers the node of an expression that may be, or what its first part that is wrong tells.
func refRoot(vars []api.Var, x []api.Part) (*refNode, api.Errno) {
	nodes := refNodes(x)
	for _, n := range nodes {
		if e := n.wrong(vars); e != api.OK {
			return nil, e
		}
	}
	root := nodes[len(nodes)-1]
	if root.typeOf(vars) == 0 && !root.allHold(vars, api.TDint) {
		return nil, api.ErrRange
	}
	return root, api.OK
}

func refType(vars []api.Var, x []api.Part) (int, api.Errno) {
	root, e := refRoot(vars, x)
	if e != api.OK {
		return 0, e
	}
	return root.typeOf(vars), api.OK
}

func refFits(vars []api.Var, x []api.Part, t int) api.Errno {
	root, e := refRoot(vars, x)
	if e != api.OK {
		return e
	}
	return root.fits(vars, t)
}

func refOneOf(vars []api.Var, x []api.Part, types ...int) api.Errno {
	root, e := refRoot(vars, x)
	if e != api.OK {
		return e
	}
	return root.oneOf(vars, types...)
}

// refPlaced is a statement with whether it is within a loop.
type refPlaced struct {
	api.Stmt
	inLoop bool
}

// refRow answers the statements in a row, each ahead of those within it.
func refRow(list []api.Stmt, inLoop bool) []refPlaced {
	var out []refPlaced
	for _, s := range list {
		in := inLoop || s.Kind == api.SWhile || s.Kind == api.SRepeat || s.Kind == api.SFor
		out = append(append(out, refPlaced{s, inLoop}), refRow(s.Body, in)...)
		for _, a := range s.Arms {
			out = append(out, refRow(a.Body, in)...)
		}
		out = append(out, refRow(s.Else, in)...)
	}
	return out
}

// refTold is what the things of a statement tell, in their order.
type refTold []api.Errno

func (l *refTold) add(wrong bool, e api.Errno) {
	if wrong {
		*l = append(*l, e)
	}
}

func (l *refTold) tell(e api.Errno) { l.add(e != api.OK, e) }

// refThings answers all that is wrong with a statement; the first one counts.
func refThings(vars []api.Var, s refPlaced) (l refTold) {
	v, there := refVar(vars, s.Name)
	if s.Name != "" && !there {
		return refTold{api.ErrName}
	}
	block := refIsBlock(v)
	l.add((s.Kind == api.SSet || s.Kind == api.SFor) && (block || v.Dir == api.DInput), api.ErrKind)
	l.add((s.Kind == api.SSet || s.Kind == api.SFor) && (v.Len != 0) != (len(s.Index) != 0), api.ErrKind)
	l.add(s.Kind == api.SCall && !block, api.ErrKind)
	l.add(s.Kind == api.SExit && !s.inLoop, api.ErrKind)
	named := map[string]int{}
	for _, a := range s.Args {
		named[a.Name]++
		l.add(!refFieldOf(v, a.Name).set || named[a.Name] > 1, api.ErrKind)
	}
	labels := map[int64]int{}
	for _, a := range s.Arms {
		for _, n := range a.Labels {
			labels[n]++
			l.add(labels[n] > 1, api.ErrKind)
		}
	}
	refExpressions(vars, s, v, &l)
	return l
}

func refExpressions(vars []api.Var, s refPlaced, v api.Var, l *refTold) {
	switch s.Kind {
	case api.SSet:
		if len(s.Index) > 0 {
			l.tell(refOneOf(vars, s.Index, api.TInt, api.TDint))
		}
		l.tell(refFits(vars, s.X, v.Type))
	case api.SIf, api.SWhile, api.SRepeat:
		l.tell(refFits(vars, s.X, api.TBool))
	case api.SFor:
		l.add(v.Type != api.TInt && v.Type != api.TDint, api.ErrType)
		l.tell(refFits(vars, s.X, v.Type))
		l.tell(refFits(vars, s.Y, v.Type))
		l.add(!refHolds(v.Type, s.By), api.ErrRange)
	case api.SCase:
		l.tell(refOneOf(vars, s.X, api.TInt, api.TDint))
		t, _ := refType(vars, s.X)
		for _, a := range s.Arms {
			for _, n := range a.Labels {
				l.add(t == api.TInt && !refHolds(t, n), api.ErrRange)
			}
		}
	case api.SCall:
		for _, a := range s.Args {
			l.tell(refFits(vars, a.X, refFieldOf(v, a.Name).t))
		}
	}
}

// refCells answers of each cell of variables that may be its type and its first value.
func refCells(vars []api.Var) (types []int, first []int64) {
	for _, v := range vars {
		if v.Len > 0 {
			types = append(types, slices.Repeat([]int{v.Type}, v.Len)...)
		} else if !refIsBlock(v) {
			types = append(types, v.Type)
		}
		for _, f := range refFields(v.Type - api.Block) {
			types = append(types, f.t)
		}
		if v.Len == 0 && !refIsBlock(v) {
			first = append(first, v.Init)
		}
		first = append(first, make([]int64, len(types)-len(first))...)
	}
	return types, first
}

// refCheck answers as Check must, of a program that may be.
func refCheck(p api.Program) (int, api.Errno) {
	names := map[string]int{p.Name: 1}
	for _, v := range p.Vars {
		if names[v.Name]++; names[v.Name] > 1 {
			return 0, api.ErrName
		}
	}
	if types, _ := refCells(p.Vars); len(types) > 1024 {
		return 0, api.ErrLong
	}
	for i, s := range refRow(p.Body, false) {
		if l := refThings(p.Vars, s); len(l) > 0 {
			return i, l[0]
		}
	}
	return 0, api.OK
}

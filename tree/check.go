package tree

import (
	"retrace/api"
	"retrace/token"
)

// The classes of nodes. What is no kind is of the class none; behind a unit the class end is wanted, of which no node is.
const (
	none  = 0
	end   = '.'
	term  = 'E'
	ref   = 'R'
	stmt  = 'S'
	block = 'B'
	cases = 'C'
	decl  = 'D'
	param = 'P'
	unit  = 'U'
)

// maxNumber is the greatest number that a text can have.
const maxNumber = 1_000_000_000_000_000_000 - 1

// row is the classes of a node's kids: of the first ones, of the last ones, and of those between, if there may be any:
// then as many as one likes.
type row struct {
	first string
	more  byte
	last  string
}

// parent is a node not all of whose kids were seen.
type parent struct {
	at   int
	seen int
}

// Check tells whether l is one unit, and else the first place of what can't stand there.
func Check(l []api.Node) (int, api.Errno) {
	var open []parent
	want := byte(unit)
	for at, n := range l {
		if class(n.Op) != want || !fits(n) {
			return at, api.ErrForm
		}
		open, want = next(l, append(open, parent{at: at}))
	}
	if want != end {
		return len(l), api.ErrForm
	}
	return 0, api.OK
}

// next tells which of the open nodes have kids still to come, and the class of the first one of these.
func next(l []api.Node, open []parent) ([]parent, byte) {
	for len(open) > 0 {
		p := &open[len(open)-1]
		n := l[p.at]
		if p.seen < n.Kids {
			p.seen++
			return open, rowOf(n).class(p.seen-1, n.Kids)
		}
		open = open[:len(open)-1]
	}
	return open, end
}

// fits tells whether the node has a name, an N and so many kids as its kind may have.
func fits(n api.Node) bool {
	return nameFits(n) && n.N >= 0 && n.N <= most(n.Op) && rowOf(n).fits(n.Kids)
}

func nameFits(n api.Node) bool {
	switch n.Op {
	case api.OpName, api.OpVar, api.OpSet, api.OpDraw, api.OpRecv, api.OpStart,
		api.OpRef, api.OpOnRecv, api.OpChan, api.OpParam, api.OpProc:
		return token.Name(n.Name)
	}
	return n.Name == ""
}

// most tells the greatest N of the nodes of a kind.
func most(op int) int {
	switch op {
	case api.OpNumber:
		return maxNumber
	case api.OpChan:
		return api.MaxSize
	case api.OpOnRecv, api.OpOnSend, api.OpAfter:
		return 1
	}
	return 0
}

// class tells the class of the nodes of a kind.
func class(op int) byte {
	switch {
	case op == api.OpRef:
		return ref
	case op == api.OpBlock:
		return block
	case op == api.OpParam:
		return param
	case op == api.OpUnit:
		return unit
	case op >= api.OpNumber && op <= api.OpOr:
		return term
	case op >= api.OpVar && op <= api.OpStop:
		return stmt
	case op >= api.OpOnRecv && op <= api.OpElse:
		return cases
	case op >= api.OpChan && op <= api.OpMain:
		return decl
	}
	return none
}

// rowOf tells which kids the node has to have. Where a kid may be left out, the row has it if the node does.
func rowOf(n api.Node) row {
	switch n.Op {
	case api.OpUnit:
		return row{more: decl}
	case api.OpProc:
		return row{more: param, last: "B"}
	case api.OpBlock:
		return row{more: stmt}
	case api.OpSelect:
		return row{first: "C", more: cases}
	case api.OpStart:
		return row{more: term}
	case api.OpIf:
		return row{first: either(n.Kids == 3, "EBB", "EB")}
	case api.OpRef:
		return row{first: either(n.Kids == 1, "E", "")}
	case api.OpOnRecv, api.OpOnSend, api.OpAfter:
		return row{first: either(n.N == 1, "E", "") + plain(n.Op)}
	}
	return row{first: plain(n.Op)}
}

// plain tells the classes of the kids of a kind's nodes, where there is no choice.
func plain(op int) string {
	switch op {
	case api.OpNeg, api.OpNot, api.OpVar, api.OpSet, api.OpDraw, api.OpSleep, api.OpPrint, api.OpAssert:
		return "E"
	case api.OpSend:
		return "RE"
	case api.OpRecv:
		return "R"
	case api.OpWhile, api.OpAfter:
		return "EB"
	case api.OpOnRecv:
		return "RB"
	case api.OpOnSend:
		return "REB"
	case api.OpElse, api.OpMain:
		return "B"
	}
	if op >= api.OpAdd && op <= api.OpOr {
		return "EE"
	}
	return ""
}

func either(b bool, yes, no string) string {
	if b {
		return yes
	}
	return no
}

// fits tells whether a node of this row may have so many kids.
func (r row) fits(count int) bool {
	told := len(r.first) + len(r.last)
	return count == told || count > told && r.more != none
}

// class tells the class of the k-th of so many kids.
func (r row) class(k, count int) byte {
	back := count - len(r.last)
	switch {
	case k < len(r.first):
		return r.first[k]
	case k >= back:
		return r.last[k-back]
	}
	return r.more
}

package term

import (
	"slices"
	"strings"

	"retrace/api"
)

// between are the signs between two terms, by levels, the looser ones first, as the chapter has them.
var between = [][]string{
	{"||"},
	{"&&"},
	{"==", "!=", "<", "<=", ">", ">="},
	{"+", "-"},
	{"*", "/", "%"},
}

// betweenOps are the kinds of nodes that these signs make.
var betweenOps = [][]int{
	{api.OpOr},
	{api.OpAnd},
	{api.OpEq, api.OpNe, api.OpLt, api.OpLe, api.OpGt, api.OpGe},
	{api.OpAdd, api.OpSub},
	{api.OpMul, api.OpDiv, api.OpMod},
}

// otherSigns are the signs that no term has.
var otherSigns = []string{"{", "}", "[", "]", ";", ",", ":", "=", "?"}

// levelOf tells the level of a sign between two terms, and the kind of its node; 0, if it is none.
func levelOf(text string) (int, int) {
	for i, l := range between {
		if k := slices.Index(l, text); k >= 0 {
			return i + 1, betweenOps[i][k]
		}
	}
	return 0, 0
}

// acts makes numbers that look like chance, the same ones for the same seed.
func acts(seed uint32) func(int) int {
	return func(bound int) int {
		seed = seed*1664525 + 1013904223
		return int(seed>>8) % bound
	}
}

// toks makes tokens of pieces between blanks. Their At is of no even distance, so that it is not taken for a place.
func toks(s string) []api.Token {
	var l []api.Token
	for i, text := range strings.Fields(s) {
		t := api.Token{Kind: api.TkSign, Text: text, At: 100 + 7*i + i*i}
		switch c := text[0]; {
		case c >= '0' && c <= '9':
			t.Kind = api.TkNumber
			for _, d := range text {
				t.N = 10*t.N + int(d-'0')
			}
		case slices.Contains([]string{"if", "random", "skip"}, text):
			t.Kind = api.TkWord
		case c >= 'a' && c <= 'z' || c >= 'A' && c <= 'Z' || c == '_':
			t.Kind = api.TkName
		}
		l = append(l, t)
	}
	return l
}

// told is what Parse tells.
type told struct {
	nodes []api.Node
	at    int
	e     api.Errno
}

// parse is Parse.
func parse(l []api.Token, at int) told {
	nodes, next, e := Parse(l, at)
	return told{nodes, next, e}
}

// plain is Parse, by plainEnd and plainTree.
func plain(l []api.Token, at int) told {
	if at < 0 {
		return told{e: api.ErrArg}
	}
	next, e := plainEnd(l, at)
	if e != api.OK {
		return told{at: next, e: e}
	}
	return told{plainTree(l[at:next]), next, api.OK}
}

func (a told) same(b told) bool {
	return slices.Equal(a.nodes, b.nodes) && a.at == b.at && a.e == b.e
}

// written writes a tree with the brackets that it asks for: [ ] around each sign between two terms and what it takes,
// ( ) around what a sign ahead takes. A number is so many I.
func written(nodes []api.Node) string {
	s, rest := writtenOne(nodes)
	if len(rest) > 0 {
		return s + " and more"
	}
	return s
}

// writtenOne is written of the first tree, and tells what stands behind it.
func writtenOne(nodes []api.Node) (string, []api.Node) {
	if len(nodes) == 0 {
		return "nothing", nil
	}
	n, rest := nodes[0], nodes[1:]
	var kids []string
	for range n.Kids {
		var kid string
		kid, rest = writtenOne(rest)
		kids = append(kids, kid)
	}
	switch {
	case n.Op == api.OpNumber && n.Kids == 0 && n.Name == "":
		return strings.Repeat("I", n.N), rest
	case n.Op == api.OpName && n.Kids == 0 && n.N == 0:
		return n.Name, rest
	case n.Op == api.OpNeg && n.Kids == 1 && n.Name == "" && n.N == 0:
		return "-(" + kids[0] + ")", rest
	case n.Op == api.OpNot && n.Kids == 1 && n.Name == "" && n.N == 0:
		return "!(" + kids[0] + ")", rest
	}
	for i, l := range betweenOps {
		if k := slices.Index(l, n.Op); k >= 0 && n.Kids == 2 && n.Name == "" && n.N == 0 {
			return "[" + kids[0] + between[i][k] + kids[1] + "]", rest
		}
	}
	return "wrong", rest
}

// plainEnd goes over the tokens from the place at on, one by one, and tells how far a term reaches, or what is wrong.
// It keeps the brackets and the signs ahead that are open and, for each bracket, whether a comparison may not follow.
func plainEnd(l []api.Token, at int) (int, api.Errno) {
	open := []string{}
	compared := []bool{false}
	wanted := true
	for ; ; at++ {
		t := api.Token{}
		if at < len(l) {
			t = l[at]
		}
		sign := ""
		if t.Kind == api.TkSign {
			sign = t.Text
		}
		level, _ := levelOf(sign)
		top := len(compared) - 1
		switch {
		case wanted && (t.Kind == api.TkNumber || t.Kind == api.TkName):
			wanted = false
		case wanted && (sign == "-" || sign == "!" || sign == "("):
			if len(open) == 24 {
				return at, api.ErrLong
			}
			open = append(open, sign)
			if sign == "(" {
				compared = append(compared, false)
			}
			continue
		case wanted:
			return at, api.ErrParse
		case sign == ")" && top > 0:
			open = open[:len(open)-1]
			compared = compared[:top]
		case level > 0 && !(level == 3 && compared[top]):
			if level <= 3 {
				compared[top] = level == 3
			}
			wanted = true
			continue
		case top > 0:
			return at, api.ErrParse
		default:
			return at, api.OK
		}
		// Behind a number, a name or a bracket no sign ahead is open.
		for len(open) > 0 && open[len(open)-1] != "(" {
			open = open[:len(open)-1]
		}
	}
}

// plainTree makes the tree of the tokens, which are a term: it parts them at the last one of the loosest signs.
func plainTree(l []api.Token) []api.Node {
	best, at, op, deep := 9, -1, 0, 0
	for i, t := range l {
		behind := i > 0 && (l[i-1].Kind != api.TkSign || l[i-1].Text == ")")
		switch {
		case t.Kind != api.TkSign:
		case t.Text == "(":
			deep++
		case t.Text == ")":
			deep--
		case deep == 0 && behind:
			if level, k := levelOf(t.Text); level <= best {
				best, at, op = level, i, k
			}
		}
	}
	first := l[0]
	if at > 0 {
		first = l[at]
		return slices.Concat([]api.Node{{Op: op, Kids: 2, At: first.At}}, plainTree(l[:at]), plainTree(l[at+1:]))
	}
	switch {
	case first.Kind == api.TkNumber:
		return []api.Node{{Op: api.OpNumber, N: first.N, At: first.At}}
	case first.Kind == api.TkName:
		return []api.Node{{Op: api.OpName, Name: first.Text, At: first.At}}
	case first.Text == "(":
		return plainTree(l[1 : len(l)-1])
	case first.Text == "-":
		return append([]api.Node{{Op: api.OpNeg, Kids: 1, At: first.At}}, plainTree(l[1:])...)
	}
	return append([]api.Node{{Op: api.OpNot, Kids: 1, At: first.At}}, plainTree(l[1:])...)
}

package parse

import (
	"slices"
	"strconv"
	"strings"
	"testing"

	"retrace/api"
	"retrace/term"
	"retrace/token"
	"retrace/tree"
)

// grammar is the language as the chapter has it.
const grammar = `
unit  = { decl } END
decl  = "chan" NAME [ "[" NUMBER "]" ] ";"
      | "proc" NAME "(" [ NAME { "," NAME } ] ")" block
      | "main" block
block = "{" { stmt } "}"
stmt  = "var" NAME "=" term ";"
      | NAME "=" term ";" | NAME "=" "random" "(" term ")" ";"
      | ref "!" term ";" | ref "?" NAME ";"
      | "if" term block [ "else" block ] | "while" term block
      | "select" "{" case { case } "}"
      | "start" NAME "(" [ term { "," term } ] ")" ";"
      | "sleep" term ";" | "print" term ";" | "assert" term ";"
      | "skip" ";" | "stop" ";"
ref   = NAME [ "[" term "]" ]
case  = "case" [ "when" term ":" ] ( ref "!" term | ref "?" NAME | "after" term ) block
      | "else" block
`

// The kinds of parts of the grammar.
const (
	choice = '|'
	row    = '&'
	often  = '{'
	maybe  = '['
	quoted = '"'
	worded = 'w' // quoted, and a word alone
	called = 'n'
)

// part is one of the grammar.
type part struct {
	kind  rune
	text  string
	parts []part
}

// rules are the grammar's rules by their names.
func rules() map[string]part {
	l := strings.Fields(grammar)
	all := map[string]part{}
	for len(l) > 0 {
		name := l[0]
		all[name], l = choicePart(l[2:])
	}
	for _, one := range all["stmt"].parts {
		if one.parts[0].kind == quoted {
			one.parts[0].kind = worded
		}
	}
	return all
}

// choicePart reads rows between which one chooses, up to a bracket that closes or the next rule.
func choicePart(l []string) (part, []string) {
	p := part{kind: choice}
	for {
		one := part{kind: row}
		for len(l) > 0 && !slices.Contains([]string{"|", ")", "]", "}"}, l[0]) && !(len(l) > 1 && l[1] == "=") {
			var next part
			next, l = onePart(l)
			one.parts = append(one.parts, next)
		}
		p.parts = append(p.parts, one)
		if len(l) == 0 || l[0] != "|" {
			return p, l
		}
		l = l[1:]
	}
}

// onePart reads one part, with its brackets.
func onePart(l []string) (part, []string) {
	switch first := l[0]; {
	case first == "(" || first == "[" || first == "{":
		p, rest := choicePart(l[1:])
		if first != "(" {
			p = part{kind: rune(first[0]), parts: []part{p}}
		}
		return p, rest[1:]
	case first[0] == '"':
		return part{kind: quoted, text: strings.Trim(first, `"`)}, l[1:]
	default:
		return part{kind: called, text: first}, l[1:]
	}
}

// model tries all ways through the grammar, and knows how far the best of them came.
type model struct {
	rules map[string]part
	toks  []api.Token
	at    int
	wrong []api.Errno
}

// plain tells the place and the error that Unit has to tell.
func plain(all map[string]part, toks []api.Token) (int, api.Errno) {
	m := model{rules: all, toks: toks}
	if m.read(part{kind: called, text: "unit"}, 0, 0, func(int) bool { return true }) {
		return 0, api.OK
	}
	for _, e := range m.wrong {
		if e != api.ErrParse {
			return m.at, e
		}
	}
	return m.at, api.ErrParse
}

// read tells whether the part can stand at the place, in so many blocks, so that then can be read behind it.
func (m *model) read(p part, at, depth int, then func(int) bool) bool {
	switch p.kind {
	case choice:
		return slices.ContainsFunc(p.parts, func(one part) bool { return m.read(one, at, depth, then) })
	case row:
		if len(p.parts) == 0 {
			return then(at)
		}
		rest := part{kind: row, parts: p.parts[1:]}
		return m.read(p.parts[0], at, depth, func(next int) bool { return m.read(rest, next, depth, then) })
	case often:
		return m.read(p.parts[0], at, depth, func(next int) bool { return m.read(p, next, depth, then) }) || then(at)
	case maybe:
		return m.read(p.parts[0], at, depth, then) || then(at)
	case quoted:
		t := m.token(at)
		return m.one(at, t.Text == p.text && (t.Kind == api.TkWord || t.Kind == api.TkSign), then)
	case worded:
		t := m.token(at)
		return m.one(at, t.Text == p.text && t.Kind == api.TkWord, then)
	}
	return m.called(p.text, at, depth, then)
}

// called is read of what the grammar calls by a name.
func (m *model) called(name string, at, depth int, then func(int) bool) bool {
	t := m.token(at)
	switch name {
	case "END":
		return m.one(at, t.Kind == api.TkEnd, then)
	case "NAME":
		return m.one(at, t.Kind == api.TkName, then)
	case "NUMBER":
		if t.Kind == api.TkNumber && (t.N < 1 || t.N > 16) {
			return m.cant(at, api.ErrRange)
		}
		return m.one(at, t.Kind == api.TkNumber, then)
	case "term":
		_, next, e := term.Parse(m.toks, at)
		if e != api.OK {
			return m.cant(next, e)
		}
		return then(next)
	case "block":
		if t.Text == "{" && (t.Kind == api.TkWord || t.Kind == api.TkSign) && depth == 24 {
			return m.cant(at, api.ErrLong)
		}
		depth++
	}
	return m.read(m.rules[name], at, depth, then)
}

// one is read of one token that can stand there, or can't.
func (m *model) one(at int, can bool, then func(int) bool) bool {
	if !can {
		return m.cant(at, api.ErrParse)
	}
	return then(at + 1)
}

// cant notes what is wrong at the place, if no way came further, and tells false.
func (m *model) cant(at int, e api.Errno) bool {
	if at > m.at {
		m.at, m.wrong = at, nil
	}
	if at == m.at {
		m.wrong = append(m.wrong, e)
	}
	return false
}

func (m *model) token(at int) api.Token {
	if at < len(m.toks) {
		return m.toks[at]
	}
	return api.Token{Kind: api.TkEnd}
}

// walk goes along the tokens of a unit as its tree tells them, and holds each node against them.
type walk struct {
	t     *testing.T
	nodes []api.Node
	toks  []api.Token
	i, k  int
}

// follows holds a tree against the tokens.
func follows(t *testing.T, nodes []api.Node, toks []api.Token) {
	t.Helper()
	w := &walk{t: t, nodes: nodes, toks: toks}
	n := w.node()
	w.same(n, api.Node{Op: api.OpUnit, Kids: n.Kids})
	for range n.Kids {
		w.declaration()
	}
	if w.token().Kind != api.TkEnd || w.i != len(nodes) {
		t.Fatalf("%v: the tree ends at the node %d, the token %d, in %v", toks, w.i, w.k, nodes)
	}
}

func (w *walk) declaration() {
	at, n := w.token().At, w.node()
	switch n.Op {
	case api.OpChan:
		w.texts("chan")
		want := api.Node{Op: n.Op, Name: w.name(), At: at}
		if w.on("[") {
			w.texts("[")
			want.N = w.token().N
			w.k++
			w.texts("]")
		}
		w.texts(";")
		w.same(n, want)
	case api.OpProc:
		w.texts("proc")
		name := w.name()
		for i := range n.Kids - 1 {
			w.texts([]string{"(", ","}[min(i, 1)])
			one := w.node()
			w.same(one, api.Node{Op: api.OpParam, At: w.token().At, Name: w.name()})
		}
		if n.Kids == 1 {
			w.texts("(")
		}
		w.texts(")")
		w.block()
		w.same(n, api.Node{Op: n.Op, Name: name, Kids: max(n.Kids, 1), At: at})
	default:
		w.texts("main")
		w.block()
		w.same(n, api.Node{Op: api.OpMain, Kids: 1, At: at})
	}
}

func (w *walk) block() {
	at, n := w.token().At, w.node()
	w.texts("{")
	for range n.Kids {
		w.statement()
	}
	w.texts("}")
	w.same(n, api.Node{Op: api.OpBlock, Kids: n.Kids, At: at})
}

func (w *walk) statement() {
	n := w.node()
	want := api.Node{Op: n.Op, At: w.token().At}
	switch n.Op {
	case api.OpVar:
		w.texts("var")
		want.Name, want.Kids = w.name(), 1
		w.texts("=")
		w.term()
	case api.OpSet:
		want.Name, want.Kids = w.name(), 1
		w.texts("=")
		w.term()
	case api.OpDraw:
		want.Name, want.Kids = w.name(), 1
		w.texts("=", "random", "(")
		w.term()
		w.texts(")")
	case api.OpSend:
		want.Kids = 2
		w.ref()
		w.texts("!")
		w.term()
	case api.OpRecv:
		want.Kids = 1
		w.ref()
		w.texts("?")
		want.Name = w.name()
	case api.OpStart:
		w.texts("start")
		want.Name, want.Kids = w.name(), n.Kids
		w.texts("(")
		for i := range n.Kids {
			if i > 0 {
				w.texts(",")
			}
			w.term()
		}
		w.texts(")")
	case api.OpSleep, api.OpPrint, api.OpAssert:
		want.Kids = 1
		w.texts(map[int]string{api.OpSleep: "sleep", api.OpPrint: "print", api.OpAssert: "assert"}[n.Op])
		w.term()
	case api.OpSkip:
		w.texts("skip")
	case api.OpStop:
		w.texts("stop")
	default:
		w.blocks(n, want)
		return
	}
	w.texts(";")
	w.same(n, want)
}

// blocks goes along a statement with blocks.
func (w *walk) blocks(n, want api.Node) {
	switch n.Op {
	case api.OpIf:
		want.Kids = 2
		w.texts("if")
		w.term()
		w.block()
		if w.on("else") {
			w.texts("else")
			w.block()
			want.Kids = 3
		}
	case api.OpWhile:
		want.Kids = 2
		w.texts("while")
		w.term()
		w.block()
	default:
		want.Op, want.Kids = api.OpSelect, max(n.Kids, 1)
		w.texts("select", "{")
		for range n.Kids {
			w.option()
		}
		w.texts("}")
	}
	w.same(n, want)
}

// option goes along a case.
func (w *walk) option() {
	n := w.node()
	want := api.Node{Op: n.Op, At: w.token().At, Kids: 1}
	if n.Op == api.OpElse {
		w.texts("else")
	} else {
		w.texts("case")
		if w.on("when") {
			want.N, want.Kids = 1, 2
			w.texts("when")
			w.term()
			w.texts(":")
		}
	}
	switch n.Op {
	case api.OpAfter:
		want.Kids++
		w.texts("after")
		w.term()
	case api.OpOnSend:
		want.Kids += 2
		w.ref()
		w.texts("!")
		w.term()
	case api.OpOnRecv:
		want.Kids++
		w.ref()
		w.texts("?")
		want.Name = w.name()
	case api.OpElse:
	default:
		w.t.Fatalf("no case: %v", n)
	}
	w.block()
	w.same(n, want)
}

func (w *walk) ref() {
	n := w.node()
	want := api.Node{Op: api.OpRef, At: w.token().At, Name: w.name()}
	if w.on("[") {
		w.texts("[")
		w.term()
		w.texts("]")
		want.Kids = 1
	}
	w.same(n, want)
}

func (w *walk) term() {
	w.t.Helper()
	nodes, next, e := term.Parse(w.toks, w.k)
	if e != api.OK || !slices.Equal(nodes, w.nodes[w.i:min(w.i+len(nodes), len(w.nodes))]) {
		w.t.Fatalf("%v: at %d the term %v, %d, in %v", w.toks, w.k, nodes, e, w.nodes)
	}
	w.i, w.k = w.i+len(nodes), next
}

// node takes the next node.
func (w *walk) node() api.Node {
	w.t.Helper()
	if w.i == len(w.nodes) {
		w.t.Fatalf("%v: no node %d in %v", w.toks, w.i, w.nodes)
	}
	w.i++
	return w.nodes[w.i-1]
}

// name takes the next token, a name.
func (w *walk) name() string {
	w.t.Helper()
	t := w.token()
	if t.Kind != api.TkName {
		w.t.Fatalf("%v: no name at %d; the tree: %v", w.toks, w.k, w.nodes)
	}
	w.k++
	return t.Text
}

// texts takes words and signs.
func (w *walk) texts(l ...string) {
	w.t.Helper()
	for _, s := range l {
		if !w.on(s) {
			w.t.Fatalf("%v: no %s at %d; the tree: %v", w.toks, s, w.k, w.nodes)
		}
		w.k++
	}
}

// on tells whether the next token is that word or sign.
func (w *walk) on(text string) bool {
	t := w.token()
	return t.Text == text && (t.Kind == api.TkWord || t.Kind == api.TkSign)
}

func (w *walk) token() api.Token {
	if w.k < len(w.toks) {
		return w.toks[w.k]
	}
	return api.Token{Kind: api.TkEnd}
}

func (w *walk) same(n, want api.Node) {
	w.t.Helper()
	if n != want {
		w.t.Fatalf("%v: the node %v, not %v, in %v", w.toks, n, want, w.nodes)
	}
}

// toks makes tokens of pieces between blanks. Their At is of no even distance, so that it is not taken for a place.
func toks(s string) []api.Token {
	var l []api.Token
	for _, text := range strings.Fields(s) {
		l = append(l, piece(text))
	}
	return laid(l)
}

// laid tells the tokens, each with an At of its own.
func laid(l []api.Token) []api.Token {
	l = slices.Clone(l)
	for i := range l {
		l[i].At = 100 + 7*i + i*i
	}
	return l
}

// piece makes a token; of END the end.
func piece(text string) api.Token {
	t := api.Token{Kind: api.TkSign, Text: text}
	switch {
	case text == "END":
		return api.Token{}
	case token.Word(text):
		t.Kind = api.TkWord
	case token.Name(text):
		t.Kind = api.TkName
	case text[0] >= '0' && text[0] <= '9':
		t.Kind = api.TkNumber
		t.N, _ = strconv.Atoi(text)
	}
	return t
}

// told is what Unit and Text tell.
type told struct {
	nodes []api.Node
	at    int
	e     api.Errno
}

func (a told) same(b told) bool {
	return slices.Equal(a.nodes, b.nodes) && a.at == b.at && a.e == b.e
}

// unit is Unit.
func unit(l []api.Token) told {
	nodes, at, e := Unit(l)
	return told{nodes, at, e}
}

// text is Text.
func text(s string) told {
	nodes, at, e := Text(s)
	return told{nodes, at, e}
}

// holds holds Unit against the grammar and its tree against the tokens.
func holds(t *testing.T, all map[string]part, l []api.Token) told {
	t.Helper()
	got := unit(l)
	at, e := plain(all, l)
	if got.at != at || got.e != e {
		t.Fatalf("%v: %d, %d, not %d, %d", l, got.at, got.e, at, e)
	}
	if e != api.OK {
		if len(got.nodes) > 0 {
			t.Fatalf("%v: nodes beside an error: %v", l, got.nodes)
		}
		return got
	}
	follows(t, got.nodes, l)
	isTree(t, got.nodes)
	return got
}

// isTree holds a tree whose names and numbers may be any against layer 9's.
func isTree(t *testing.T, nodes []api.Node) {
	t.Helper()
	l := slices.Clone(nodes)
	for i, n := range l {
		switch n.Op {
		case api.OpNumber:
			l[i].N = 1
		case api.OpName, api.OpVar, api.OpSet, api.OpDraw, api.OpRecv, api.OpStart, api.OpRef, api.OpOnRecv, api.OpChan,
			api.OpParam, api.OpProc:
			l[i].Name = "x"
		}
	}
	if at, e := tree.Check(l); at != 0 || e != api.OK {
		t.Fatalf("%v: no tree at %d", nodes, at)
	}
}

// acts makes numbers that look like chance, the same ones for the same seed.
func acts(seed uint32) func(int) int {
	return func(bound int) int {
		seed = seed*1664525 + 1013904223
		return int(seed>>8) % bound
	}
}

// names are the kinds of nodes as written has them; a node of a kind that is none here is written by its number.
func names() map[int]string {
	all := map[int]string{
		api.OpVar: "var", api.OpSet: "set", api.OpDraw: "draw", api.OpSend: "send", api.OpRecv: "recv", api.OpIf: "if",
		api.OpWhile: "while", api.OpSelect: "select", api.OpStart: "start", api.OpSleep: "sleep", api.OpPrint: "print",
		api.OpAssert: "assert", api.OpSkip: "skip", api.OpStop: "stop", api.OpBlock: "block", api.OpRef: "ref",
		api.OpOnRecv: "onrecv", api.OpOnSend: "onsend", api.OpAfter: "after", api.OpElse: "else", api.OpChan: "chan",
		api.OpParam: "param", api.OpProc: "proc", api.OpMain: "main", api.OpUnit: "unit", api.OpNumber: "", api.OpName: "",
	}
	for op := api.OpNeg; op <= api.OpOr; op++ {
		all[op] = term.Sign(op)
	}
	return all
}

// written writes a tree of tokens: of each node its kind, its name, its N, and at which token it is; in brackets its
// kids.
func written(nodes []api.Node, toks []api.Token) string {
	s, rest := writtenOne(nodes, toks)
	if len(rest) > 0 {
		return s + " and more"
	}
	return s
}

// writtenOne is written of the first tree, and tells what stands behind it.
func writtenOne(nodes []api.Node, toks []api.Token) (string, []api.Node) {
	if len(nodes) == 0 {
		return "nothing", nil
	}
	n, rest := nodes[0], nodes[1:]
	s, there := names()[n.Op]
	if !there {
		s = "op" + strconv.Itoa(n.Op)
	}
	if n.Name != "" {
		s += "'" + n.Name
	}
	if n.N != 0 {
		s += "=" + strconv.Itoa(n.N)
	}
	if at := slices.IndexFunc(toks, func(t api.Token) bool { return t.At == n.At }); at >= 0 || n.At != 0 {
		s += "@" + strconv.Itoa(at)
	}
	var kids []string
	for range n.Kids {
		var one string
		one, rest = writtenOne(rest, toks)
		kids = append(kids, one)
	}
	if len(kids) > 0 {
		s += "(" + strings.Join(kids, " ") + ")"
	}
	return s, rest
}

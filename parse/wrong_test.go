package parse

import (
	"math"
	"slices"
	"strings"
	"testing"

	"retrace/api"
)

// alphabet is each word and each sign, a name, a number, the end, and tokens that are none.
func alphabet() []api.Token {
	l := toks("chan proc main var if else while select case when after start sleep random print assert skip stop " +
		"{ } ( ) [ ] ; , : = == ! != ? + - * / % < <= > >= && || a 3 0 17 END")
	return append(l, api.Token{Kind: 5, Text: "main"}, api.Token{Kind: -1, Text: "}"}, api.Token{Kind: math.MinInt, Text: "a", N: 1})
}

// P11.1: what is wrong, and where.
func TestWrong(t *testing.T) {
	all := rules()
	for _, c := range []struct {
		s  string
		at int
		e  api.Errno
	}{
		// Declarations.
		{"skip ;", 0, api.ErrParse},
		{"c ;", 0, api.ErrParse},
		{"3", 0, api.ErrParse},
		{"; main { }", 0, api.ErrParse},
		{"main { } }", 3, api.ErrParse},
		{"main { } ;", 3, api.ErrParse},
		{"main { } stop ;", 3, api.ErrParse},
		{"chan", 1, api.ErrParse},
		{"chan ;", 1, api.ErrParse},
		{"chan 3 ;", 1, api.ErrParse},
		{"chan main ;", 1, api.ErrParse},
		{"chan c", 2, api.ErrParse},
		{"chan c main { }", 2, api.ErrParse},
		{"chan c , d ;", 2, api.ErrParse},
		{"chan c [ ] ;", 3, api.ErrParse},
		{"chan c [ a ] ;", 3, api.ErrParse},
		{"chan c [ - 1 ] ;", 3, api.ErrParse},
		{"chan c [ ( 1 ) ] ;", 3, api.ErrParse},
		{"chan c [ 1 + 1 ] ;", 4, api.ErrParse},
		{"chan c [ 1 ;", 4, api.ErrParse},
		{"chan c [ 1 ] [ 1 ] ;", 5, api.ErrParse},
		{"chan c [ 1 ]", 5, api.ErrParse},
		{"proc ( ) { }", 1, api.ErrParse},
		{"proc P { }", 2, api.ErrParse},
		{"proc P ( , ) { }", 3, api.ErrParse},
		{"proc P ( 3 ) { }", 3, api.ErrParse},
		{"proc P ( a , ) { }", 5, api.ErrParse},
		{"proc P ( a b ) { }", 4, api.ErrParse},
		{"proc P ( a ; b ) { }", 4, api.ErrParse},
		{"proc P ( a , 3 ) { }", 5, api.ErrParse},
		{"proc P ( a { }", 4, api.ErrParse},
		{"proc P ( ) ;", 4, api.ErrParse},
		{"proc P ( ) { } ;", 6, api.ErrParse},
		{"main ( ) { }", 1, api.ErrParse},
		{"main ;", 1, api.ErrParse},
		{"main { main { } }", 2, api.ErrParse},
		{"main { chan c ; }", 2, api.ErrParse},
		{"main { proc P ( ) { } }", 2, api.ErrParse},
		// Statements.
		{"main { ; }", 2, api.ErrParse},
		{"main { { } }", 2, api.ErrParse},
		{"main { 3 ; }", 2, api.ErrParse},
		{"main { ( a ) ; }", 2, api.ErrParse},
		{"main { else { } }", 2, api.ErrParse},
		{"main { case after 1 { } }", 2, api.ErrParse},
		{"main { when 1 : skip ; }", 2, api.ErrParse},
		{"main { after 1 { } }", 2, api.ErrParse},
		{"main { random ( 1 ) ; }", 2, api.ErrParse},
		{"main { skip ; ; }", 4, api.ErrParse},
		{"main { skip }", 3, api.ErrParse},
		{"main { stop }", 3, api.ErrParse},
		{"main { stop 1 ; }", 3, api.ErrParse},
		{"main { var = 1 ; }", 3, api.ErrParse},
		{"main { var x ; }", 4, api.ErrParse},
		{"main { var x == 1 ; }", 4, api.ErrParse},
		{"main { var x = ; }", 5, api.ErrParse},
		{"main { var x = random ( 1 ) ; }", 5, api.ErrParse},
		{"main { var x = 1 , y = 2 ; }", 6, api.ErrParse},
		{"main { var x [ 1 ] = 2 ; }", 4, api.ErrParse},
		{"main { x ; }", 3, api.ErrParse},
		{"main { x y ; }", 3, api.ErrParse},
		{"main { x 3 ; }", 3, api.ErrParse},
		{"main { x ( ) ; }", 3, api.ErrParse},
		{"main { x == 1 ; }", 3, api.ErrParse},
		{"main { x = ; }", 4, api.ErrParse},
		{"main { x = 1 }", 5, api.ErrParse},
		{"main { x = y = 1 ; }", 5, api.ErrParse},
		{"main { x = random ; }", 5, api.ErrParse},
		{"main { x = random 1 ; }", 5, api.ErrParse},
		{"main { x = random ( ) ; }", 6, api.ErrParse},
		{"main { x = random ( 1 ; }", 7, api.ErrParse},
		{"main { x = random ( 1 , 2 ) ; }", 7, api.ErrParse},
		{"main { x = random ( 1 ) + 1 ; }", 8, api.ErrParse},
		{"main { x = 1 + random ( 1 ) ; }", 6, api.ErrParse},
		{"main { x = ( random ( 1 ) ) ; }", 5, api.ErrParse},
		{"main { c ! ; }", 4, api.ErrParse},
		{"main { c ! 1 }", 5, api.ErrParse},
		{"main { c ! random ( 1 ) ; }", 4, api.ErrParse},
		{"main { c ? ; }", 4, api.ErrParse},
		{"main { c ? 1 ; }", 4, api.ErrParse},
		{"main { c ? ( x ) ; }", 4, api.ErrParse},
		{"main { c ? x + 1 ; }", 5, api.ErrParse},
		{"main { c ? x [ 1 ] ; }", 5, api.ErrParse},
		{"main { c [ ] ! 1 ; }", 4, api.ErrParse},
		{"main { c [ 1 ! 1 ; }", 5, api.ErrParse},
		{"main { c [ 1 , 2 ] ! 1 ; }", 5, api.ErrParse},
		{"main { c [ 1 ] ; }", 6, api.ErrParse},
		{"main { c [ 1 ] = 1 ; }", 6, api.ErrParse},
		{"main { c [ 1 ] [ 2 ] ! 1 ; }", 6, api.ErrParse},
		{"main { if { } }", 3, api.ErrParse},
		{"main { if a ; }", 4, api.ErrParse},
		{"main { if a skip ; }", 4, api.ErrParse},
		{"main { if a { } ; }", 6, api.ErrParse},
		{"main { if a { } else skip ; }", 7, api.ErrParse},
		{"main { if a { } else if b { } }", 7, api.ErrParse},
		{"main { if a { } else { } else { } }", 9, api.ErrParse},
		{"main { while { } }", 3, api.ErrParse},
		{"main { while a skip ; }", 4, api.ErrParse},
		{"main { while a { } else { } }", 6, api.ErrParse},
		{"main { start ( ) ; }", 3, api.ErrParse},
		{"main { start P ; }", 4, api.ErrParse},
		{"main { start P ( , ) ; }", 5, api.ErrParse},
		{"main { start P ( 1 , ) ; }", 7, api.ErrParse},
		{"main { start P ( 1 2 ) ; }", 6, api.ErrParse},
		{"main { start P ( 1 ; }", 6, api.ErrParse},
		{"main { start P ( ) }", 6, api.ErrParse},
		{"main { sleep ; }", 3, api.ErrParse},
		{"main { sleep 1 }", 4, api.ErrParse},
		{"main { print ; }", 3, api.ErrParse},
		{"main { print 1 , 2 ; }", 4, api.ErrParse},
		{"main { assert ; }", 3, api.ErrParse},
		{"main { assert a b ; }", 4, api.ErrParse},
		// Cases.
		{"main { select ; }", 3, api.ErrParse},
		{"main { select a { } }", 3, api.ErrParse},
		{"main { select { } }", 4, api.ErrParse},
		{"main { select { skip ; } }", 4, api.ErrParse},
		{"main { select { c ! 1 { } } }", 4, api.ErrParse},
		{"main { select { when 1 : after 1 { } } }", 4, api.ErrParse},
		{"main { select { after 1 { } } }", 4, api.ErrParse},
		{"main { select { else { } skip ; } }", 7, api.ErrParse},
		{"main { select { else { } ; } }", 7, api.ErrParse},
		{"main { select { else { } ) }", 7, api.ErrParse},
		{"main { select { else ; } }", 5, api.ErrParse},
		{"main { select { else if 1 { } } }", 5, api.ErrParse},
		{"main { select { case { } } }", 5, api.ErrParse},
		{"main { select { case else { } } }", 5, api.ErrParse},
		{"main { select { case skip ; } }", 5, api.ErrParse},
		{"main { select { case 1 { } } }", 5, api.ErrParse},
		{"main { select { case c { } } }", 6, api.ErrParse},
		{"main { select { case c = 1 { } } }", 6, api.ErrParse},
		{"main { select { case c ! { } } }", 7, api.ErrParse},
		{"main { select { case c ! 1 ; } }", 8, api.ErrParse},
		{"main { select { case c ! 1 : { } } }", 8, api.ErrParse},
		{"main { select { case c ? { } } }", 7, api.ErrParse},
		{"main { select { case c ? 1 { } } }", 7, api.ErrParse},
		{"main { select { case c ? x ; } }", 8, api.ErrParse},
		{"main { select { case c [ ] ? x { } } }", 7, api.ErrParse},
		{"main { select { case c [ 1 ? x { } } }", 8, api.ErrParse},
		{"main { select { case after { } } }", 6, api.ErrParse},
		{"main { select { case after c ! 1 { } } }", 7, api.ErrParse},
		{"main { select { case when : c ! 1 { } } }", 6, api.ErrParse},
		{"main { select { case when 1 c ! 1 { } } }", 7, api.ErrParse},
		{"main { select { case when 1 { } } }", 7, api.ErrParse},
		{"main { select { case when 1 : { } } }", 8, api.ErrParse},
		{"main { select { case when 1 : else { } } }", 8, api.ErrParse},
		{"main { select { case when 1 : when 2 : after 1 { } } }", 8, api.ErrParse},
		{"main { select { case after 1 : c ! 1 { } } }", 7, api.ErrParse},
		{"main { select { case c ! 1 when 1 { } } }", 8, api.ErrParse},
		// The first one that is wrong.
		{"chan c [ 17 ;", 3, api.ErrRange},
		{"chan [ 17 ] ;", 1, api.ErrParse},
		{"chan c [ a ] ; chan d [ 17 ] ;", 3, api.ErrParse},
		{"chan c [ 0 ] ; chan d [ a ] ;", 3, api.ErrRange},
		{"main { x = ; c ! ; }", 4, api.ErrParse},
	} {
		if got := holds(t, all, toks(c.s)); !got.same(told{nil, c.at, c.e}) {
			t.Errorf("%s: %d, %d, not %d, %d", c.s, got.at, got.e, c.at, c.e)
		}
	}
}

// P11.1: no tokens, an end amid the tokens, and none at all.
func TestEnd(t *testing.T) {
	all := rules()
	empty := told{[]api.Node{{Op: api.OpUnit}}, 0, api.OK}
	for _, l := range [][]api.Token{nil, {}, {{}}, {{At: 9}}, {{Text: "main", N: 4}}, {{}, {}}, append([]api.Token{{}}, toks("skip [ main")...)} {
		if got := unit(l); !got.same(empty) {
			t.Errorf("%v: %v", l, got)
		}
	}
	for _, s := range append(programs(all), "chan a ; chan b [ 2 ] ; proc P ( ) { select { case c ? x { } } } main { } chan c ;") {
		l := toks(s)
		whole := 0
		for k := range len(l) + 1 {
			// Whole are declarations alone: behind each of them all that was opened is closed.
			got := holds(t, all, l[:k])
			if got.e == api.OK {
				whole++
			} else if !got.same(told{nil, k, api.ErrParse}) {
				t.Errorf("%s, cut at %d: %v", s, k, got)
			}
			for _, end := range []api.Token{{}, {Text: "}", N: 1, At: -1}, {Text: ";"}, {Text: "main"}, {Text: "a"}, {Text: "1", N: 1}} {
				ended := slices.Concat(l[:k], []api.Token{end}, l[k:])
				if one := unit(ended); !one.same(got) {
					t.Errorf("%s, ended at %d by %v: %v, not %v", s, k, end, one, got)
				}
				ended = slices.Concat(l[:k], []api.Token{end}, toks("; 3 ( main {"))
				if one := unit(ended); !one.same(got) {
					t.Errorf("%s, ended at %d by %v, with others behind: %v, not %v", s, k, end, one, got)
				}
			}
		}
		if want := 1 + unit(l).nodes[0].Kids; whole != want {
			t.Errorf("%s: whole at %d places, not %d", s, whole, want)
		}
	}
}

// P11.1: each token of each form spoilt, left out, doubled, and put out of its place.
func TestSpoilt(t *testing.T) {
	all := rules()
	others := alphabet()
	for _, s := range programs(all) {
		l := toks(s)
		for k := range l {
			holds(t, all, slices.Concat(l[:k], l[k+1:]))
			holds(t, all, slices.Insert(slices.Clone(l), k, l[k]))
			for far := 1; k+far < len(l) && far < 4; far++ {
				swapped := slices.Clone(l)
				swapped[k], swapped[k+far] = swapped[k+far], swapped[k]
				holds(t, all, swapped)
			}
			for _, one := range others {
				one.At = l[k].At
				holds(t, all, slices.Concat(l[:k], []api.Token{one}, l[k+1:]))
				if k%2 == 0 {
					holds(t, all, slices.Insert(slices.Clone(l), k, one))
				}
			}
		}
	}
}

// P11.1: what stands in quotes is a token of that text that is a word or a sign, but the first one of a statement is
// a word; a name and a number are tokens of their kinds, whatever their text.
func TestKindsOfTokens(t *testing.T) {
	all := rules()
	kinds := []int{api.TkEnd, api.TkName, api.TkNumber, api.TkWord, api.TkSign}
	none := []int{5, 6, -1, math.MinInt, math.MaxInt, 256 + api.TkWord, 1<<32 + api.TkSign}
	for _, s := range programs(all) {
		l := toks(s)
		want := unit(l)
		for k := range l {
			changed := slices.Clone(l)
			for _, kind := range kinds {
				changed[k].Kind = kind
				holds(t, all, changed)
			}
			for _, kind := range none {
				changed[k].Kind = kind
				if got := holds(t, all, changed); !got.same(told{nil, k, api.ErrParse}) {
					t.Errorf("%s: the token %d of the kind %d: %v", s, k, kind, got)
				}
			}
			if l[k].Kind != api.TkWord && l[k].Kind != api.TkSign {
				continue
			}
			changed[k].Kind = api.TkWord + api.TkSign - l[k].Kind
			got := unit(changed)
			switch slices.Contains(kept, l[k].Text) {
			case true:
				if !got.same(told{nil, k, api.ErrParse}) {
					t.Errorf("%s: the token %d a sign or a word: %v", s, k, got)
				}
			case false:
				if !got.same(want) {
					t.Errorf("%s: the token %d a sign or a word: %v, not %v", s, k, got, want)
				}
			}
		}
	}
}

// kept are the words and signs of the forms that must be of their kind: those with which a statement begins, and that
// of their terms.
var kept = []string{"var", "if", "while", "select", "start", "sleep", "print", "assert", "skip", "stop", "-"}

// P11.1: a name where a word must stand, and a word where a name must.
func TestNamesAndWords(t *testing.T) {
	all := rules()
	for _, c := range []struct {
		s       string
		k, kind int
		at      int
		e       api.Errno
		tree    string
	}{
		{"chan c ;", 0, api.TkName, 0, api.ErrParse, ""},
		{"chan c ;", 1, api.TkWord, 1, api.ErrParse, ""},
		{"main { skip ; }", 2, api.TkName, 3, api.ErrParse, ""},
		{"main { var ! 1 ; }", 2, api.TkName, 0, api.OK, "unit(main@0(block@1(send@2(ref'var@2 =1@4))))"},
		{"main { } = 1 ; }", 2, api.TkName, 0, api.OK, "unit(main@0(block@1(set'}@2(=1@4))))"},
		{"main { x = random ( 1 ) ; }", 4, api.TkName, 5, api.ErrParse, ""},
		{"main { x = random ; }", 4, api.TkName, 0, api.OK, "unit(main@0(block@1(set'x@2('random@4))))"},
		{"main { x = random ( 1 ) ; }", 4, api.TkSign, 0, api.OK, "unit(main@0(block@1(draw'x@2(=1@6))))"},
		{"main { select { case after ! 1 { } } }", 5, api.TkName, 0, api.OK, "unit(main@0(block@1(select@2(onsend@4(ref'after@5 =1@7 block@8)))))"},
		{"main { select { case when ? x { } } }", 5, api.TkName, 0, api.OK, "unit(main@0(block@1(select@2(onrecv'x@4(ref'when@5 block@8)))))"},
		{"main { if a { } else ! 1 ; }", 6, api.TkName, 0, api.OK, "unit(main@0(block@1(if@2('a@3 block@4) send@6(ref'else@6 =1@8))))"},
		{"proc P ( ) , a ) { }", 3, api.TkName, 0, api.OK, "unit(proc'P@0(param')@3 param'a@5 block@7))"},
		{"main { start P ( ) , a ) ; }", 5, api.TkName, 0, api.OK, "unit(main@0(block@1(start'P@2(')@5 'a@7))))"},
		{"main { c ? = ; }", 4, api.TkName, 0, api.OK, "unit(main@0(block@1(recv'=@2(ref'c@2))))"},
		{"main { start P ( ) ; }", 5, api.TkNumber, 6, api.ErrParse, ""},
	} {
		l := toks(c.s)
		l[c.k].Kind = c.kind
		got := holds(t, all, l)
		w := ""
		if got.e == api.OK {
			w = written(got.nodes, l)
		}
		if got.at != c.at || got.e != c.e || w != c.tree {
			t.Errorf("%s, with the token %d of the kind %d: %d, %d, %s", c.s, c.k, c.kind, got.at, got.e, w)
		}
	}
}

// P11.1: how many channels.
func TestSizes(t *testing.T) {
	all := rules()
	for _, n := range []int{0, 1, 2, 15, 16, 17, 18, 24, -1, -16, math.MinInt, math.MaxInt, 1 << 32, 1<<32 + 1, 256 + 3, 65536 + 3} {
		for _, behind := range []string{"] ;", "] ; main { } ;", ";", "", "a ] ;"} {
			l := toks("chan b ; chan c [ 3 " + behind)
			l[6].N = n
			got := holds(t, all, l)
			switch right := n >= 1 && n <= 16; {
			case !right && !got.same(told{nil, 6, api.ErrRange}):
				t.Errorf("%d %s: %v", n, behind, got)
			case right && behind == "] ;" && (got.e != api.OK || got.nodes[2] != api.Node{Op: api.OpChan, Name: "c", N: n, At: l[3].At}):
				t.Errorf("%d: %v", n, got)
			case right && behind != "] ;" && got.e != api.ErrParse:
				t.Errorf("%d %s: %v", n, behind, got)
			}
			// In a term, and where no number stands, any number is as good as another one.
			l = toks("main { c [ 3 ] ! 3 ; }")
			l[4].N, l[7].N = n, n
			if got := holds(t, all, l); got.e != api.OK || got.nodes[5].N != n || got.nodes[6].N != n {
				t.Errorf("a term %d: %v", n, got)
			}
		}
	}
	for _, kind := range []int{api.TkEnd, api.TkName, api.TkWord, api.TkSign, 7} {
		l := toks("chan c [ 99 ] ;")
		l[3].Kind = kind
		if got := holds(t, all, l); !got.same(told{nil, 3, api.ErrParse}) {
			t.Errorf("a size of the kind %d: %v", kind, got)
		}
	}
}

// deeper are the pieces ahead of a block's pieces and behind them, by which it lies deeper by one.
func deeper() [][2]string {
	return [][2]string{
		{"if a {", "}"},
		{"if a { skip ; } else {", "}"},
		{"while a {", "}"},
		{"select { case c ! 1 {", "} }"},
		{"select { case c [ 1 ] ? x {", "} }"},
		{"select { case after 1 {", "} }"},
		{"select { case when 1 : c ? x {", "} case after 1 { } }"},
		{"select { else {", "} }"},
		{"select { case c ? x { } else { } case c ! 1 {", "} else { } }"},
		{"skip ; if a { } while b { } if b {", "} else { } stop ;"},
	}
}

// within tells a program with n blocks within one another, without what closes them, and what closes them.
func within(outer string, n int, block func(int) [2]string) (string, string) {
	open, shut := []string{outer + " {"}, []string{"}"}
	for i := range n - 1 {
		open = append(open, block(i)[0])
		shut = append(shut, block(i)[1])
	}
	slices.Reverse(shut)
	return strings.Join(open, " "), strings.Join(shut, " ")
}

// P11.1: blocks that lie just as deep as may be, and deeper by one.
func TestDepth(t *testing.T) {
	const most = 24
	all := rules()
	kinds := deeper()
	ways := []func(int) [2]string{func(i int) [2]string { return kinds[i%len(kinds)] }}
	for _, one := range kinds {
		ways = append(ways, func(int) [2]string { return one })
	}
	for w, way := range ways {
		for _, outer := range []string{"main", "proc P ( a )", "chan c ; main { } proc P ( )"} {
			open, shut := within(outer, most, way)
			whole := open + " skip ; " + shut
			if got := holds(t, all, toks(whole)); got.e != api.OK {
				t.Errorf("%s: %d, %d", whole, got.at, got.e)
			}
			// One beside the other is no deeper.
			if got := holds(t, all, toks(whole+" "+whole+" main { } "+whole)); got.e != api.OK {
				t.Errorf("three of %s: %d, %d", whole, got.at, got.e)
			}
			for _, last := range kinds {
				// Which of the blocks is the first one that is too deep.
				blocks, found := toks(last[0]), 0
				for i, one := range blocks {
					if one.Text == "{" && blocks[max(i-1, 0)].Text != "select" {
						found = i
						break
					}
				}
				at := len(toks(open)) + found
				for _, behind := range []string{last[1] + " " + shut, "", ")", "( ( (", "x = 1", "skip ; " + last[1] + " } } } }"} {
					if got := holds(t, all, toks(open+" "+last[0]+" "+behind)); !got.same(told{nil, at, api.ErrLong}) {
						t.Errorf("%d: %s %s %s: %d, %d", w, open, last[0], behind, got.at, got.e)
					}
				}
				// A wrong token ahead is the first one, and one that stands there.
				l := toks(open + " " + last[0])
				wrong := slices.Insert(slices.Clone(l), len(l)/2, api.Token{Kind: 9})
				if got := holds(t, all, wrong); !got.same(told{nil, len(l) / 2, api.ErrParse}) {
					t.Errorf("%d: a wrong token ahead: %d, %d", w, got.at, got.e)
				}
				for _, one := range toks("] : main , END") {
					wrong = slices.Clone(l)
					wrong[at] = one
					if got := holds(t, all, wrong); !got.same(told{nil, at, api.ErrParse}) {
						t.Errorf("%d: %v in the place of {: %d, %d", w, one, got.at, got.e)
					}
				}
				if got := holds(t, all, l[:at]); !got.same(told{nil, at, api.ErrParse}) {
					t.Errorf("%d: cut ahead of {: %d, %d", w, got.at, got.e)
				}
				// As deep as may be, behind a block that is as deep.
				open, shut := within(outer, most-1, way)
				if got := holds(t, all, toks(open+" "+last[0]+" "+last[1]+" "+last[0]+" "+last[1]+" "+shut)); got.e != api.OK {
					t.Errorf("%d: %s twice: %d, %d", w, last[0], got.at, got.e)
				}
			}
		}
	}
	// The { of a select is of no block.
	open, shut := within("main", most, ways[1])
	for _, s := range []string{"select {", "select { }", "select { case", "select { case c ? x", "select { skip ; }"} {
		at := len(toks(open)) + min(len(toks(s)), 2)
		if strings.HasPrefix(s, "select { case") {
			at = len(toks(open + " " + s))
		}
		if got := holds(t, all, toks(open+" "+s+" "+shut)); !got.same(told{nil, at, api.ErrParse}) {
			t.Errorf("%s at the depth %d: %v", s, most, got)
		}
	}
}

// termPlaces are the pieces ahead of a term and behind it, for each place where one stands.
func termPlaces() [][2]string {
	l := [][2]string{
		{"var x =", ";"},
		{"x =", ";"},
		{"x = random (", ") ;"},
		{"c !", ";"},
		{"c [", "] ! 1 ;"},
		{"c [ 2 ] !", ";"},
		{"c [", "] ? x ;"},
		{"if", "{ }"},
		{"if", "{ } else { }"},
		{"while", "{ }"},
		{"start P (", ") ;"},
		{"start P (", ", 1 ) ;"},
		{"start P ( a , 2 ,", ") ;"},
		{"sleep", ";"},
		{"print", ";"},
		{"assert", ";"},
	}
	for _, one := range [][2]string{
		{"case when", ": c ! 1 { }"},
		{"case when", ": c ? x { }"},
		{"case when", ": after 1 { }"},
		{"case c !", "{ }"},
		{"case c [", "] ! 1 { }"},
		{"case c [", "] ? x { }"},
		{"case when 1 : c [", "] ? x { }"},
		{"case when 1 : c [ 2 ] !", "{ }"},
		{"case after", "{ }"},
		{"case when 1 : after", "{ }"},
	} {
		l = append(l, [2]string{"select { else { } " + one[0], one[1] + " }"}, [2]string{"select { " + one[0], one[1] + " else { } }"})
	}
	for i := range l {
		l[i][0] = "main { " + l[i][0]
		l[i][1] += " }"
	}
	return l
}

// P11.1: terms that are right, wrong, or too deep, in each place where one stands, and what may not follow them.
func TestTerms(t *testing.T) {
	all := rules()
	deep := strings.Repeat("( ", 23) + "- a" + strings.Repeat(" )", 23)
	right := []string{"a", "0", "- ( a + b ) * 2", "! a && ! b || a <= 3", "( ( a ) )", deep, deep + " < " + deep}
	for _, p := range termPlaces() {
		at := len(toks(p[0]))
		for _, s := range right {
			if got := holds(t, all, toks(p[0]+" "+s+" "+p[1])); got.e != api.OK {
				t.Errorf("%s %s %s: %d, %d", p[0], s, p[1], got.at, got.e)
			}
			// What may not follow it.
			for _, next := range []string{"a", "3", "! 1", "= 1", "( 1 )", "random ( 1 )", "if", "stop", "END", "+ ;", "|| }", "* random"} {
				n := len(toks(s))
				if next[0] == '+' || next[0] == '|' || next[0] == '*' {
					n++
				}
				if got := holds(t, all, toks(p[0]+" "+s+" "+next+" "+p[1])); !got.same(told{nil, at + n, api.ErrParse}) {
					t.Errorf("%s %s %s %s: %d, %d", p[0], s, next, p[1], got.at, got.e)
				}
			}
			for _, next := range toks("( ) ; , : ] } { [ ? =") {
				holds(t, all, slices.Concat(toks(p[0]+" "+s), []api.Token{next}, toks(p[1])))
			}
		}
		for _, c := range []struct {
			s  string
			at int
			e  api.Errno
		}{
			{"", 0, api.ErrParse},
			{"+ a", 0, api.ErrParse},
			{"if", 0, api.ErrParse},
			{"END", 0, api.ErrParse},
			{"a +", 2, api.ErrParse},
			{"- ! -", 3, api.ErrParse},
			{"a < b < c", 3, api.ErrParse},
			{"a == b + 1 != c", 5, api.ErrParse},
			{"( )", 1, api.ErrParse},
			{"( a ;", 2, api.ErrParse},
			{"( a + ( b - 1 ; )", 7, api.ErrParse},
			{"( a b )", 2, api.ErrParse},
			{"a + ( * )", 3, api.ErrParse},
			{strings.Repeat("( ", 25) + "a" + strings.Repeat(" )", 25), 24, api.ErrLong},
			{strings.Repeat("- ", 25) + "a", 24, api.ErrLong},
			{"( " + deep + " + - a )", 24, api.ErrLong},
			{"1 + - " + deep, 26, api.ErrLong},
			{"1 < 2 < - " + deep, 3, api.ErrParse},
			{strings.Repeat("! ", 24) + "!", 24, api.ErrLong},
			{strings.Repeat("! ", 24) + ";", 24, api.ErrParse},
		} {
			if got := holds(t, all, toks(p[0]+" "+c.s+" "+p[1])); !got.same(told{nil, at + c.at, c.e}) {
				if c.s == "" && strings.HasSuffix(p[0], "(") && p[1][0] == ')' && strings.Contains(p[0], "start") && got.e == api.OK {
					continue
				}
				t.Errorf("%s %s %s: %d, %d, not %d, %d", p[0], c.s, p[1], got.at, got.e, at+c.at, c.e)
			}
		}
	}
	// How deep a term lies doesn't hang on the blocks.
	for _, p := range deeper() {
		open, shut := within("main", 24, func(int) [2]string { return p })
		if got := holds(t, all, toks(open+" x = "+deep+" ; "+shut)); got.e != api.OK {
			t.Errorf("%s x = %s: %d, %d", open, deep, got.at, got.e)
		}
	}
}

// P11.1: all rows of two tokens behind what stands ahead of them.
func TestAllRows(t *testing.T) {
	all := rules()
	others := alphabet()
	for _, s := range []string{
		"", "chan", "chan c", "chan c [", "chan c [ 2", "proc", "proc P", "proc P (", "proc P ( a", "proc P ( a ,", "proc P ( )", "main", "main {", "main { }",
		"main { var", "main { var x", "main { x", "main { x =", "main { x = random", "main { x = random ( 1", "main { x = 1", "main { c [", "main { c [ 1 ]",
		"main { c ?", "main { c !", "main { if", "main { if a", "main { if a { }", "main { if a { } else", "main { while a", "main { select", "main { select {",
		"main { select { else", "main { select { else { }", "main { select { case", "main { select { case c", "main { select { case when", "main { select { case when 1",
		"main { select { case when 1 :", "main { select { case when 1 : c", "main { select { case c ? x", "main { select { case after", "main { start", "main { start P",
		"main { start P (", "main { start P ( 1", "main { start P ( 1 ,", "main { start P ( )", "main { sleep", "main { sleep 1", "main { skip", "main { stop ;",
	} {
		ahead := toks(s)
		l := append(ahead, api.Token{}, api.Token{})
		n := len(ahead)
		for i, one := range others {
			one.At = 1000
			l[n] = one
			holds(t, all, l[:n+1])
			for k, other := range others {
				if (i+k)%3 == len(s)%3 {
					other.At = 2000
					l[n+1] = other
					holds(t, all, l)
				}
			}
		}
	}
}

// P11.2
func TestText(t *testing.T) {
	long := strings.Repeat("a", 17)
	digits := strings.Repeat("1", 19)
	for _, c := range []struct {
		s  string
		at int
		e  api.Errno
	}{
		{"", 0, api.OK},
		{" \t\r\n ", 0, api.OK},
		{"# main { x = $ }", 0, api.OK},
		{"# a\n\n # b", 0, api.OK},
		{"main{}", 0, api.OK},
		{"main { x = 1; } # }", 0, api.OK},
		{"chan c[1];#\nmain{c[0]!1;}", 0, api.OK},
		// The unit's errors.
		{"x", 0, api.ErrParse},
		{"  x", 2, api.ErrParse},
		{"#\n x", 3, api.ErrParse},
		{"main {", 6, api.ErrParse},
		{"main {   ", 9, api.ErrParse},
		{"main { # x", 10, api.ErrParse},
		{"main { c ! ; }", 11, api.ErrParse},
		{"main { x = 1 }", 13, api.ErrParse},
		{"main {\n\tx = 1;\n\ty 2;\n}", 18, api.ErrParse},
		{"main { x = random; }", 17, api.ErrParse},
		{"main { a<b<c = 1; }", 8, api.ErrParse},
		{"main { print a<b<c; }", 16, api.ErrParse},
		{"main { select { } }", 16, api.ErrParse},
		{"chan  c[17];", 8, api.ErrRange},
		{"chan c[0];", 7, api.ErrRange},
		{"chan c[999999999999999999];", 7, api.ErrRange},
		{"main { x = " + strings.Repeat("(", 25) + "1;}", 11 + 24, api.ErrLong},
		{"main{ " + strings.Repeat("if 1{", 24) + "x;", 6 + 23*5 + 4, api.ErrLong},
		{"main{ " + strings.Repeat("if 1{", 23) + strings.Repeat("}", 24), 0, api.OK},
		// Token's, whatever stands ahead of them or behind.
		{"$", 0, api.ErrSign},
		{"main { } $", 9, api.ErrSign},
		{"main { } &", 9, api.ErrSign},
		{"main { c | 1; }", 9, api.ErrSign},
		{"main { x = 012; }", 11, api.ErrForm},
		{"main { x = 1a; }", 11, api.ErrForm},
		{"main { x = " + digits + "; }", 11, api.ErrLong},
		{"main { " + long + " = 1; }", 7, api.ErrLong},
		{"main { c ! ; } $", 15, api.ErrSign},
		{"; ; ; 00", 6, api.ErrForm},
		{"main { x = 1 } " + long, 15, api.ErrLong},
		{"chan c[17]; 1x", 12, api.ErrForm},
		{"$ main { c ! ; }", 0, api.ErrSign},
		{"main { \xff = 1; } ;", 7, api.ErrSign},
		{"main { " + strings.Repeat("{", 30) + " \x00", 38, api.ErrSign},
		{"} 1a $", 2, api.ErrForm},
		{"} $ 1a", 2, api.ErrSign},
		// The length.
		{strings.Repeat(" ", 1<<16), 0, api.OK},
		{strings.Repeat(" ", 1<<16-6) + "main{}", 0, api.OK},
		{strings.Repeat(" ", 1<<16-1) + "}", 1<<16 - 1, api.ErrParse},
		{strings.Repeat(" ", 1<<16-5) + "main{", 1 << 16, api.ErrParse},
		{strings.Repeat(" ", 1<<16+1), 0, api.ErrLong},
		{strings.Repeat("$", 1<<16+1), 0, api.ErrLong},
		{"}" + strings.Repeat(" ", 1<<16), 0, api.ErrLong},
	} {
		nodes, at, e := Text(c.s)
		if at != c.at || e != c.e || (len(nodes) == 0) != (e != api.OK) {
			t.Errorf("%.60q: %v, %d, %d, not %d, %d", c.s, nodes, at, e, c.at, c.e)
		}
		if e == api.OK {
			isTree(t, nodes)
		}
	}
}

// P11.2: the places of a text's nodes.
func TestTextsNodes(t *testing.T) {
	want := []api.Node{
		{Op: api.OpUnit, Kids: 3},
		{Op: api.OpChan, Name: "c", N: 2, At: 4},
		{Op: api.OpProc, Name: "P", Kids: 3, At: 15},
		{Op: api.OpParam, Name: "a", At: 22},
		{Op: api.OpParam, Name: "b", At: 25},
		{Op: api.OpBlock, Kids: 1, At: 28},
		{Op: api.OpSend, Kids: 2, At: 29},
		{Op: api.OpRef, Name: "c", Kids: 1, At: 29},
		{Op: api.OpName, Name: "a", At: 31},
		{Op: api.OpName, Name: "b", At: 34},
		{Op: api.OpMain, Kids: 1, At: 38},
		{Op: api.OpBlock, Kids: 2, At: 42},
		{Op: api.OpStart, Name: "P", Kids: 1, At: 43},
		{Op: api.OpAdd, Kids: 2, At: 52},
		{Op: api.OpNumber, N: 1, At: 51},
		{Op: api.OpNumber, N: 2, At: 53},
		{Op: api.OpSelect, Kids: 2, At: 56},
		{Op: api.OpOnRecv, Name: "x", N: 1, Kids: 3, At: 63},
		{Op: api.OpNumber, N: 1, At: 73},
		{Op: api.OpRef, Name: "c", At: 75},
		{Op: api.OpBlock, At: 78},
		{Op: api.OpElse, Kids: 1, At: 80},
		{Op: api.OpBlock, At: 84},
	}
	got := text("\n#r\nchan c[2];\nproc P(a, b) {c[a]!b;}\nmain{start P(1+2);select{case when 1:c?x{}else{}}}")
	if !got.same(told{want, 0, api.OK}) {
		t.Errorf("%v", got)
	}
	isTree(t, got.nodes)
}

// P11.2: Text is Unit of the text's tokens.
func TestTextOfPieces(t *testing.T) {
	all := rules()
	act := acts(7)
	right := 0
	for range 2000 {
		l := toks(someProgram(act, all, all["unit"], 3))
		if act(2) == 0 {
			l = spoilt(act, l)
		}
		var s []string
		for i := range l {
			if l[i].Kind > api.TkSign || l[i].Kind < api.TkName {
				l[i] = api.Token{Kind: api.TkSign, Text: "?"}
			}
			l[i].At = len(strings.Join(s, "\n"))
			if i > 0 {
				l[i].At++
			}
			s = append(s, l[i].Text)
		}
		whole := strings.Join(s, "\n")
		want := unit(l)
		if want.e != api.OK {
			want.at = append(l, api.Token{At: len(whole)})[want.at].At
		} else {
			right++
		}
		if got := text(whole); !got.same(want) {
			t.Fatalf("%q: %v, not %v", whole, got, want)
		}
	}
	if right < 500 || right > 1900 {
		t.Errorf("%d were programs", right)
	}
}

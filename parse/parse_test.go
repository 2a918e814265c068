package parse

import (
	"math"
	"slices"
	"strings"
	"testing"

	"retrace/api"
	"retrace/token"
	"retrace/tree"
)

// P11.1: declarations, and the trees they are.
func TestDeclarations(t *testing.T) {
	for _, c := range []struct{ s, want string }{
		{"", "unit"},
		{"chan c ;", "unit(chan'c@0)"},
		{"chan c [ 1 ] ;", "unit(chan'c=1@0)"},
		{"chan c [ 16 ] ;", "unit(chan'c=16@0)"},
		{"proc P ( ) { }", "unit(proc'P@0(block@4))"},
		{"proc P ( a ) { }", "unit(proc'P@0(param'a@3 block@5))"},
		{"proc P ( a , b ) { }", "unit(proc'P@0(param'a@3 param'b@5 block@7))"},
		{"proc P ( a , b , P , a ) { skip ; }", "unit(proc'P@0(param'a@3 param'b@5 param'P@7 param'a@9 block@11(skip@12)))"},
		{"main { }", "unit(main@0(block@1))"},
		{"main { } main { }", "unit(main@0(block@1) main@3(block@4))"},
		{"main { skip ; stop ; skip ; }", "unit(main@0(block@1(skip@2 stop@4 skip@6)))"},
		{"chan c ; chan c ; main { } proc P ( ) { stop ; } chan d [ 2 ] ;",
			"unit(chan'c@0 chan'c@3 main@6(block@7) proc'P@9(block@13(stop@14)) chan'd=2@17)"},
	} {
		isWritten(t, c.s, c.want)
	}
}

// P11.1: statements, and the trees they are.
func TestStatements(t *testing.T) {
	for _, c := range []struct{ s, want string }{
		{"", ""},
		{"var x = 0 ;", "var'x@2(@5)"},
		{"var x = - a ;", "var'x@2(-@5('a@6))"},
		{"x = 1 ;", "set'x@2(=1@4)"},
		{"x = a + 2 ;", "set'x@2(+@5('a@4 =2@6))"},
		{"x = random ( 9 ) ;", "draw'x@2(=9@6)"},
		{"x = random ( a * b ) ;", "draw'x@2(*@7('a@6 'b@8))"},
		{"x = ( 9 ) ;", "set'x@2(=9@5)"},
		{"c ! 1 ;", "send@2(ref'c@2 =1@4)"},
		{"c ! ! 1 ;", "send@2(ref'c@2 !@4(=1@5))"},
		{"c [ 4 ] ! 1 ;", "send@2(ref'c@2(=4@4) =1@7)"},
		{"c [ a - b ] ! a - b ;", "send@2(ref'c@2(-@5('a@4 'b@6)) -@10('a@9 'b@11))"},
		{"c ? x ;", "recv'x@2(ref'c@2)"},
		{"c [ 4 ] ? x ;", "recv'x@2(ref'c@2(=4@4))"},
		{"if a { }", "if@2('a@3 block@4)"},
		{"if ( a ) { skip ; }", "if@2('a@4 block@6(skip@7))"},
		{"if a { } else { }", "if@2('a@3 block@4 block@7)"},
		{"if a { skip ; } else { stop ; skip ; }", "if@2('a@3 block@4(skip@5) block@9(stop@10 skip@12))"},
		{"if a { } else { if b { } else { } }", "if@2('a@3 block@4 block@7(if@8('b@9 block@10 block@13)))"},
		{"if a { if b { } } else { }", "if@2('a@3 block@4(if@5('b@6 block@7)) block@11)"},
		{"if a { } if b { } else { }", "if@2('a@3 block@4) if@6('b@7 block@8 block@11)"},
		{"while a < 1 { }", "while@2(<@4('a@3 =1@5) block@6)"},
		{"while 1 { while 2 { stop ; } }", "while@2(=1@3 block@4(while@5(=2@6 block@7(stop@8))))"},
		{"start P ( ) ;", "start'P@2"},
		{"start P ( 7 ) ;", "start'P@2(=7@5)"},
		{"start P ( 7 , a , - b , ( 8 ) ) ;", "start'P@2(=7@5 'a@7 -@9('b@10) =8@13)"},
		{"sleep 5 ;", "sleep@2(=5@3)"},
		{"print a && b ;", "print@2(&&@4('a@3 'b@5))"},
		{"assert a == b ;", "assert@2(==@4('a@3 'b@5))"},
		{"skip ;", "skip@2"},
		{"stop ;", "stop@2"},
	} {
		want := ""
		if c.want != "" {
			want = "(" + c.want + ")"
		}
		isWritten(t, "main { "+c.s+" }", "unit(main@0(block@1"+want+"))")
	}
}

// P11.1: cases, and the trees they are.
func TestCases(t *testing.T) {
	for _, c := range []struct{ s, want string }{
		{"case c ! 1 { }", "onsend@4(ref'c@5 =1@7 block@8)"},
		{"case c [ 2 ] ! a + b { }", "onsend@4(ref'c@5(=2@7) +@11('a@10 'b@12) block@13)"},
		{"case c ? x { }", "onrecv'x@4(ref'c@5 block@8)"},
		{"case c [ 2 ] ? x { }", "onrecv'x@4(ref'c@5(=2@7) block@11)"},
		{"case after 3 { }", "after@4(=3@6 block@7)"},
		{"case when a : c ! 1 { }", "onsend=1@4('a@6 ref'c@8 =1@10 block@11)"},
		{"case when a : c [ 2 ] ! 1 { }", "onsend=1@4('a@6 ref'c@8(=2@10) =1@13 block@14)"},
		{"case when a || b : c ? x { }", "onrecv'x=1@4(||@7('a@6 'b@8) ref'c@10 block@13)"},
		{"case when ! a : c [ - 2 ] ? x { }", "onrecv'x=1@4(!@6('a@7) ref'c@9(-@11(=2@12)) block@16)"},
		{"case when a : after 3 { }", "after=1@4('a@6 =3@9 block@10)"},
		{"else { }", "else@4(block@5)"},
		{"else { stop ; }", "else@4(block@5(stop@6))"},
		{"else { } else { skip ; } else { }", "else@4(block@5) else@7(block@8(skip@9)) else@12(block@13)"},
		{"case c ! 1 { skip ; stop ; } else { } case after 0 { }",
			"onsend@4(ref'c@5 =1@7 block@8(skip@9 stop@11)) else@14(block@15) after@17(@19 block@20)"},
		{"else { select { else { } } } case after 1 { }", "else@4(block@5(select@6(else@8(block@9)))) after@13(=1@15 block@16)"},
	} {
		isWritten(t, "main { select { "+c.s+" } }", "unit(main@0(block@1(select@2("+c.want+"))))")
	}
}

// isWritten holds the tree of the pieces against what is written.
func isWritten(t *testing.T, s, want string) {
	t.Helper()
	l := toks(s)
	got := holds(t, rules(), l)
	if w := written(got.nodes, l); got.at != 0 || got.e != api.OK || w != want {
		t.Errorf("%s: %d, %d, %s, not %s", s, got.at, got.e, w, want)
	}
	if ended := unit(append(l, api.Token{At: 3})); !ended.same(got) {
		t.Errorf("%s and the end: %v", s, ended)
	}
}

// forms are the rows of pieces that a part of the grammar can be, each row of it at most twice. What it calls stands
// there as the samples have it, or as the grammar has it.
func forms(all map[string]part, p part) []string {
	samples := map[string][]string{
		"NAME": {"x"}, "NUMBER": {"3"}, "term": {"- 1"}, "block": {"{ }"}, "case": {"else { }"}, "decl": {"main { }"},
		"stmt": {"skip ;"}, "END": {""},
	}
	switch p.kind {
	case choice:
		var l []string
		for _, one := range p.parts {
			l = append(l, forms(all, one)...)
		}
		return l
	case row:
		l := []string{""}
		for _, one := range p.parts {
			l = products(l, forms(all, one))
		}
		return l
	case often:
		once := forms(all, p.parts[0])
		return slices.Concat([]string{""}, once, products(once, once))
	case maybe:
		return append(forms(all, p.parts[0]), "")
	case called:
		if l, there := samples[p.text]; there {
			return l
		}
		return forms(all, all[p.text])
	}
	return []string{p.text}
}

// products tells each of a with each of b behind it.
func products(a, b []string) []string {
	var l []string
	for _, one := range a {
		for _, other := range b {
			l = append(l, one+" "+other)
		}
	}
	return l
}

// programs are all forms of each rule of the grammar, each one within a program.
func programs(all map[string]part) []string {
	l := slices.Concat(forms(all, all["unit"]), forms(all, all["decl"]))
	for _, s := range slices.Concat(forms(all, all["stmt"]), []string{""}) {
		l = append(l, "main { "+s+" }", "proc P ( ) { stop ; "+s+" stop ; }")
	}
	for _, s := range forms(all, all["case"]) {
		l = append(l, "main { select { "+s+" } }", "main { select { else { } "+s+" else { } } }")
	}
	return l
}

// P11.1, P11.3: all forms.
func TestForms(t *testing.T) {
	all := rules()
	l := programs(all)
	if len(l) < 75 {
		t.Fatalf("%d forms", len(l))
	}
	for _, s := range l {
		if got := holds(t, all, toks(s)); got.e != api.OK {
			t.Errorf("%s: %d, %d", s, got.at, got.e)
		}
	}
}

// P11.1: many in a row.
func TestMany(t *testing.T) {
	for n := range 40 {
		for _, c := range []struct {
			ahead, one, between, behind string
			op, own, ahead0             int
		}{
			{"", "chan c ;", "", "", api.OpUnit, 0, 0},
			{"", "main { }", "", "", api.OpUnit, 0, 0},
			{"proc P (", "a", ",", ") { }", api.OpProc, 1, 0},
			{"main {", "skip ;", "", "}", api.OpBlock, 0, 0},
			{"main { while 1 {", "if 1 { }", "", "} }", api.OpBlock, 0, 1},
			{"main { select { else { }", "else { }", "", "} }", api.OpSelect, 1, 0},
			{"main { select {", "case after 1 { }", "", "else { } } }", api.OpSelect, 1, 0},
			{"main { start P (", "1", ",", ") ; }", api.OpStart, 0, 0},
			{"main { start P (", "- a", ",", ") ; }", api.OpStart, 0, 0},
		} {
			s := strings.Join(slices.Repeat([]string{c.one}, n), " "+c.between+" ")
			got := unit(toks(c.ahead + " " + s + " " + c.behind))
			if got.at != 0 || got.e != api.OK {
				t.Fatalf("%s %s %s: %d, %d", c.ahead, s, c.behind, got.at, got.e)
			}
			isTree(t, got.nodes)
			var found []api.Node
			for _, one := range got.nodes {
				if one.Op == c.op {
					found = append(found, one)
				}
			}
			if kids := found[c.ahead0].Kids; kids != n+c.own {
				t.Errorf("%s %s %s: %d kids", c.ahead, s, c.behind, kids)
			}
		}
	}
}

// P11.1: names as the tokens have them, whatever their text.
func TestNames(t *testing.T) {
	all := rules()
	s := "chan n ; chan n [ 2 ] ; proc n ( n , n ) { var n = n ; n = 1 ; n = random ( n ) ; n ! n ; n ? n ; n [ n ] ! n ; n [ n ] ? n ; " +
		"start n ( n ) ; select { case n ! n { } case n ? n { } case when n : n [ n ] ! n { } case when n : n ? n { } case after n { } } }"
	texts := []string{"", "n", "7", "a name longer than sixteen bytes", "\x00\xff"}
	for _, one := range alphabet() {
		texts = append(texts, one.Text)
	}
	for _, text := range texts {
		l := toks(s)
		for i := range l {
			if l[i].Text == "n" {
				l[i].Text, l[i].N = text, 5
			}
		}
		got := holds(t, all, l)
		if got.e != api.OK {
			t.Fatalf("names %q: %d, %d", text, got.at, got.e)
		}
		want := unit(toks(s)).nodes
		for i := range want {
			if want[i].Name == "n" {
				want[i].Name = text
			}
		}
		if !slices.Equal(got.nodes, want) {
			t.Errorf("names %q: %v", text, got.nodes)
		}
	}
}

// P11.1: a token's At is told as it is, and a word's or sign's N isn't told.
func TestPlacesOfNodes(t *testing.T) {
	l := toks("chan c ; main { c ! 2 ; c ? x ; }")
	for i := range l {
		l[i].At = []int{math.MinInt, -1, 0, math.MaxInt, 5}[i%5]
		if l[i].Kind != api.TkNumber {
			l[i].N = 1000 + i
		}
	}
	want := []api.Node{
		{Op: api.OpUnit, Kids: 2},
		{Op: api.OpChan, Name: "c", At: math.MinInt},
		{Op: api.OpMain, Kids: 1, At: math.MaxInt},
		{Op: api.OpBlock, Kids: 2, At: 5},
		{Op: api.OpSend, Kids: 2, At: math.MinInt},
		{Op: api.OpRef, Name: "c", At: math.MinInt},
		{Op: api.OpNumber, N: 2, At: 0},
		{Op: api.OpRecv, Name: "x", Kids: 1, At: 5},
		{Op: api.OpRef, Name: "c", At: 5},
	}
	if got := unit(l); !got.same(told{want, 0, api.OK}) {
		t.Errorf("%v", got)
	}
}

// someProgram makes the pieces of a part of the grammar, chosen by act; so much as depth tells within one another.
func someProgram(act func(int) int, all map[string]part, p part, depth int) string {
	switch p.kind {
	case choice:
		return someProgram(act, all, p.parts[act(len(p.parts))], depth)
	case row:
		var l []string
		for _, one := range p.parts {
			l = append(l, someProgram(act, all, one, depth))
		}
		return strings.Join(l, " ")
	case often:
		var l []string
		for range act(4) {
			l = append(l, someProgram(act, all, p.parts[0], depth))
		}
		return strings.Join(l, " ")
	case maybe:
		if act(2) == 0 {
			return ""
		}
		return someProgram(act, all, p.parts[0], depth)
	case quoted, worded:
		return p.text
	}
	switch p.text {
	case "END":
		return ""
	case "NAME":
		return []string{"a", "b", "c", "P"}[act(4)]
	case "NUMBER":
		return []string{"1", "2", "16"}[act(3)]
	case "term":
		return []string{"a", "1", "- b", "a + 1", "( a )", "a * ( b - 1 )", "! a && b"}[act(7)]
	case "block":
		if depth == 0 {
			return "{ }"
		}
		depth--
	}
	return someProgram(act, all, all[p.text], depth)
}

// P11.1, P11.3: programs, and programs that are spoilt, held against the grammar.
func TestManyPrograms(t *testing.T) {
	act := acts(11)
	all := rules()
	right, wrong := 0, 0
	for range 1500 {
		l := toks(someProgram(act, all, all["unit"], 4))
		if got := holds(t, all, l); got.e != api.OK {
			t.Fatalf("%v: %v", l, got)
		}
		for range 3 {
			l = spoilt(act, l)
		}
		if got := holds(t, all, l); got.e == api.OK {
			right++
		} else {
			wrong++
		}
	}
	if right < 100 || wrong < 500 {
		t.Errorf("%d were programs, %d were none", right, wrong)
	}
}

// spoilt tells the tokens with one of them changed.
func spoilt(act func(int) int, l []api.Token) []api.Token {
	if len(l) == 0 {
		return l
	}
	at, one := act(len(l)), alphabet()
	switch act(5) {
	case 0:
		l = slices.Insert(slices.Clone(l), at, one[act(len(one))])
	case 1:
		l = slices.Concat(l[:at], l[at+1:])
	case 2:
		l = slices.Insert(slices.Clone(l), at, l[at])
	case 3:
		l = slices.Clone(l)
		other := act(len(l))
		l[at], l[other] = l[other], l[at]
	}
	return laid(l)
}

// P11.1: what came in reads as before, and what goes out is the caller's own.
func TestOwn(t *testing.T) {
	for _, s := range []string{"", "chan c ; main { c ! a + 1 ; }", "main { select { case c ? x { } } }", "main { x = 1 }", "main { x = ( 1 ; }"} {
		l := toks(s)
		before := slices.Clone(l)
		one := unit(l)
		other := unit(l)
		kept := slices.Clone(other.nodes)
		clear(one.nodes)
		_ = append(one.nodes, one.nodes...)
		if !slices.Equal(l, before) {
			t.Errorf("%s: the tokens were changed to %v", s, l)
		}
		clear(l)
		if !slices.Equal(other.nodes, kept) || !unit(before).same(other) {
			t.Errorf("%s: %v, not %v", s, other.nodes, kept)
		}
	}
	// What lies behind the length is neither read nor written.
	whole := toks("main { } chan c ; main { x = 1 + 2 ; }")
	before := slices.Clone(whole)
	for k := range whole {
		if got, want := unit(whole[:k]), unit(slices.Clone(whole[:k])); !got.same(want) {
			t.Errorf("behind the length %d: %v, not %v", k, got, want)
		}
	}
	if !slices.Equal(whole, before) {
		t.Errorf("changed to %v", whole)
	}
}

// P11.1, P11.3: long programs take no room that there isn't, and their time grows no faster than they do.
func TestLong(t *testing.T) {
	const size = 1 << 14
	for _, c := range []struct {
		ahead, one, behind string
		nodes              int
	}{
		{"", "chan c [ 3 ] ;", "", 1},
		{"", "proc P ( a , b ) { skip ; }", "", 5},
		{"proc P (", "a ,", "a ) { }", 1},
		{"main {", "skip ;", "}", 1},
		{"main {", "x = 1 ; c ! x ; c [ 2 ] ? x ;", "}", 2 + 3 + 3},
		{"main { select {", "case c ? x { }", "} }", 3},
		{"main { select {", "else { stop ; }", "} }", 3},
		{"main { start P (", "1 ,", "1 ) ; }", 1},
		{"main {", "if a { } else { while 1 { } }", "}", 7},
		{"main { x =", "a +", "1 ; }", 2},
		{"main {", "c [ 1 ] ! ( ( ( 2 ) ) ) ; var x = - 3 ;", "}", 4 + 3},
	} {
		ahead, one, behind := toks(c.ahead), toks(c.one), toks(c.behind)
		l := laid(slices.Concat(ahead, slices.Repeat(one, size), behind))
		rest := unit(slices.Concat(ahead, one, behind))
		got := unit(l)
		if got.at != 0 || got.e != api.OK || len(got.nodes) != len(rest.nodes)+(size-1)*c.nodes {
			t.Errorf("%s %s: %d nodes, %d, %d", c.ahead, c.one, len(got.nodes), got.at, got.e)
			continue
		}
		isTree(t, got.nodes)
		if cut := unit(l[:len(l)-1-len(one)-len(behind)]); len(c.ahead) > 0 && !cut.same(told{nil, len(l) - 1 - len(one) - len(behind), api.ErrParse}) {
			t.Errorf("%s %s, cut: %d, %d", c.ahead, c.one, cut.at, cut.e)
		}
	}
}

// P11.3: what is parsed of a text is a tree that is one.
func TestIsTree(t *testing.T) {
	all := rules()
	act := acts(3)
	for range 500 {
		s := strings.ReplaceAll(someProgram(act, all, all["unit"], 3), "  ", "\n")
		nodes, at, e := Text(s)
		if e != api.OK {
			t.Fatalf("%s: %d, %d", s, at, e)
		}
		if at, e := tree.Check(nodes); at != 0 || e != api.OK {
			t.Errorf("%s: no tree at %d", s, at)
		}
	}
	for _, s := range programs(all) {
		nodes, _, e := Text(s)
		if at, wrong := tree.Check(nodes); e != api.OK || wrong != api.OK {
			t.Errorf("%s: %d, no tree at %d", s, e, at)
		}
	}
	// But that names are as the tokens have them.
	l := toks("chan c ;")
	l[1].Text = "7"
	got := unit(l)
	if at, e := tree.Check(got.nodes); got.e != api.OK || at != 1 || e != api.ErrForm {
		t.Errorf("%v: %d, %d", got, at, e)
	}
}

// Example 1.
func TestExample(t *testing.T) {
	nodes, at, e := Text("main { }")
	want := []api.Node{{Op: api.OpUnit, Kids: 1}, {Op: api.OpMain, Kids: 1, At: 0}, {Op: api.OpBlock, At: 5}}
	if !slices.Equal(nodes, want) || at != 0 || e != api.OK {
		t.Errorf("%v, %d, %d", nodes, at, e)
	}
	if got := text("main { c ! ; }"); !got.same(told{nil, 11, api.ErrParse}) {
		t.Errorf("%v", got)
	}
	l, _, _ := token.All("main { c ! ; }")
	if got := unit(l); !got.same(told{nil, 4, api.ErrParse}) {
		t.Errorf("%v", got)
	}
}

package term

import (
	"math"
	"slices"
	"strings"
	"testing"

	"retrace/api"
	"retrace/token"
	"retrace/tree"
)

// P10.1
func TestTerms(t *testing.T) {
	for _, c := range []struct {
		s    string
		want string
		next int
	}{
		{"a", "a", 1},
		{"3", "III", 1},
		{"a - 1 - b * 2 ;", "[[a-I]-[b*II]]", 7},
		{"a * b - c", "[[a*b]-c]", 5},
		{"a || b && c < d + e * f", "[a||[b&&[c<[d+[e*f]]]]]", 11},
		{"a * b + c < d && e || f", "[[[[[a*b]+c]<d]&&e]||f]", 11},
		{"a || b || c || d", "[[[a||b]||c]||d]", 7},
		{"a && b || c && d || e && f", "[[[a&&b]||[c&&d]]||[e&&f]]", 11},
		{"a + b * c - d / e % f + g", "[[[a+[b*c]]-[[d/e]%f]]+g]", 13},
		{"a < b && c < d || e == f", "[[[a<b]&&[c<d]]||[e==f]]", 11},
		// Comparisons don't go on, however they stand.
		{"a < b < c", "[a<b]", 3},
		{"a < b == c && d", "[a<b]", 3},
		{"a == b != c", "[a==b]", 3},
		{"a + b < c * d > e", "[[a+b]<[c*d]]", 7},
		{"a || b && c >= d <= e || f", "[a||[b&&[c>=d]]]", 7},
		{"a < b && c < d < e", "[[a<b]&&[c<d]]", 7},
		{"( a < b ) < c", "[[a<b]<c]", 7},
		{"a < ( b < c )", "[a<[b<c]]", 7},
		{"( a < b ) < ( c < d ) < e", "[[a<b]<[c<d]]", 11},
		{"a < b <", "[a<b]", 3},
		{"( a < b ) && c < d", "[[a<b]&&[c<d]]", 9},
		{"a < ( b && c ) < d", "[a<[b&&c]]", 7},
		{"! a < b < c", "[!(a)<b]", 4},
		// Signs ahead.
		{"- a", "-(a)", 2},
		{"! 1", "!(I)", 2},
		{"- - ! - a", "-(-(!(-(a))))", 5},
		{"- a * b", "[-(a)*b]", 4},
		{"- a - - b", "[-(a)--(b)]", 5},
		{"a - - - b", "[a--(-(b))]", 5},
		{"! a && ! b || - c == - d", "[[!(a)&&!(b)]||[-(c)==-(d)]]", 11},
		{"- ( a + b ) * c", "[-([a+b])*c]", 8},
		{"! ! ( ! a )", "!(!(!(a)))", 6},
		// Brackets make no nodes.
		{"( a )", "a", 3},
		{"( ( ( 2 ) ) )", "II", 7},
		{"( a + b ) * ( c - d )", "[[a+b]*[c-d]]", 11},
		{"a - ( b - ( c - d ) )", "[a-[b-[c-d]]]", 11},
		{"( ( a - b ) - c ) - d", "[[[a-b]-c]-d]", 11},
		{"a * ( b || - ( c && d ) )", "[a*[b||-([c&&d])]]", 12},
		{"a )", "a", 1},
		{"( a ) )", "a", 3},
		{"( a + b ) ) * c", "[a+b]", 5},
	} {
		got := parse(toks(c.s), 0)
		if got.e != api.OK || got.at != c.next || written(got.nodes) != c.want {
			t.Errorf("%s: %s, %d, %d, not %s, %d", c.s, written(got.nodes), got.at, got.e, c.want, c.next)
		}
	}
}

// P10.1: each sign between two terms with each other one behind it, and these with each other one.
func TestSignsInARow(t *testing.T) {
	all := slices.Concat(between...)
	for _, a := range all {
		for _, b := range all {
			la, _ := levelOf(a)
			lb, _ := levelOf(b)
			want, next := "[[x"+a+"y]"+b+"z]", 5
			switch {
			case la == 3 && lb == 3:
				want, next = "[x"+a+"y]", 3
			case la < lb:
				want = "[x" + a + "[y" + b + "z]]"
			}
			l := toks("x " + a + " y " + b + " z")
			if got := parse(l, 0); got.e != api.OK || got.at != next || written(got.nodes) != want {
				t.Errorf("x %s y %s z: %s, %d, %d, not %s, %d", a, b, written(got.nodes), got.at, got.e, want, next)
			}
			for _, c := range all {
				holds(t, "x "+a+" y "+b+" z "+c+" 1")
				holds(t, "- x "+a+" ! y "+b+" - ( z "+c+" 1 ) "+a+" 2")
			}
		}
	}
}

// holds holds Parse of the pieces, at each place, against the plain one.
func holds(t *testing.T, s string) {
	t.Helper()
	l := toks(s)
	for at := -1; at < len(l)+2; at++ {
		holdsAt(t, l, at)
	}
}

// holdsAt holds Parse against the plain one.
func holdsAt(t *testing.T, l []api.Token, at int) told {
	t.Helper()
	got, want := parse(l, at), plain(l, at)
	if !got.same(want) {
		t.Fatalf("%v at %d: %v, not %v", l, at, got, want)
	}
	return got
}

// P10.1: each kind of node, whole.
func TestNodes(t *testing.T) {
	number := api.Token{Kind: api.TkNumber, Text: "0700", N: 700, At: 31}
	name := api.Token{Kind: api.TkName, Text: "x_9", N: 17, At: 77}
	sign := func(text string) api.Token {
		return api.Token{Kind: api.TkSign, Text: text, N: 5, At: 55}
	}
	numberNode := api.Node{Op: api.OpNumber, N: 700, At: 31}
	nameNode := api.Node{Op: api.OpName, Name: "x_9", At: 77}
	type list = []api.Node
	for _, c := range []struct {
		l    []api.Token
		want list
	}{
		{[]api.Token{number}, list{numberNode}},
		{[]api.Token{name}, list{nameNode}},
		{[]api.Token{sign("-"), name}, list{{Op: api.OpNeg, Kids: 1, At: 55}, nameNode}},
		{[]api.Token{sign("!"), number}, list{{Op: api.OpNot, Kids: 1, At: 55}, numberNode}},
		{[]api.Token{sign("("), number, sign(")")}, list{numberNode}},
		{[]api.Token{{Kind: api.TkNumber}}, list{{Op: api.OpNumber}}},
		{[]api.Token{{Kind: api.TkName}}, list{{Op: api.OpName}}},
		{[]api.Token{{Kind: api.TkNumber, N: 999999999999999999, At: math.MaxInt}}, list{{Op: api.OpNumber, N: 999999999999999999, At: math.MaxInt}}},
		{[]api.Token{{Kind: api.TkName, Text: "if", At: -4}}, list{{Op: api.OpName, Name: "if", At: -4}}},
	} {
		if got := parse(c.l, 0); !got.same(told{c.want, len(c.l), api.OK}) {
			t.Errorf("%v: %v, not %v", c.l, got, c.want)
		}
	}
	for i, l := range between {
		for k, s := range l {
			op := betweenOps[i][k]
			got := parse([]api.Token{name, sign(s), number}, 0)
			if want := (list{{Op: op, Kids: 2, At: 55}, nameNode, numberNode}); !got.same(told{want, 3, api.OK}) {
				t.Errorf("%s: %v, not %v", s, got, want)
			}
		}
	}
}

// P10.1: what the kind of a token tells counts, not its text.
func TestTextsOfOtherKinds(t *testing.T) {
	all := append(slices.Concat(between...), "!", "(", ")")
	for _, s := range all {
		name := api.Token{Kind: api.TkName, Text: s, At: 3}
		number := api.Token{Kind: api.TkNumber, Text: s, N: 8, At: 4}
		a, open, shut := toks("a")[0], toks("(")[0], toks(")")[0]
		for _, l := range [][]api.Token{
			{name}, {number}, {name, a}, {number, a}, {a, name, a}, {a, number, a},
			{open, a, name}, {open, a, number}, {open, name, shut}, {open, number, shut}, {name, name}, {number, number},
		} {
			holdsAt(t, l, 0)
		}
		if got := parse([]api.Token{name, a}, 0); !got.same(told{[]api.Node{{Op: api.OpName, Name: s, At: 3}}, 1, api.OK}) {
			t.Errorf("a name %s: %v", s, got)
		}
		for _, kind := range []int{api.TkEnd, api.TkWord, 5, 6, -1, math.MinInt, math.MaxInt} {
			none := api.Token{Kind: kind, Text: s, N: 2, At: 9}
			if got := parse([]api.Token{none, a, shut}, 0); !got.same(told{nil, 0, api.ErrParse}) {
				t.Errorf("kind %d, %s, ahead of a: %v", kind, s, got)
			}
			if got := parse([]api.Token{a, none, a}, 0); !got.same(told{[]api.Node{{Op: api.OpName, Name: "a", At: a.At}}, 1, api.OK}) {
				t.Errorf("kind %d, %s, behind a: %v", kind, s, got)
			}
			if got := parse([]api.Token{open, a, none}, 0); !got.same(told{nil, 2, api.ErrParse}) {
				t.Errorf("kind %d, %s, behind ( a: %v", kind, s, got)
			}
		}
	}
	for _, s := range []string{"a", "7", "", "if", "--", "||-", " -", "- ", "&", "|", "\x00"} {
		sign := api.Token{Kind: api.TkSign, Text: s, N: 7}
		if got := parse([]api.Token{sign}, 0); !got.same(told{nil, 0, api.ErrParse}) {
			t.Errorf("a sign %q: %v", s, got)
		}
		if got := parse(append(toks("1"), sign, toks("2")[0]), 0); got.at != 1 || got.e != api.OK || written(got.nodes) != "I" {
			t.Errorf("a sign %q behind 1: %v", s, got)
		}
	}
}

// cantBegin are pieces with which no term begins; "end" is the end.
func cantBegin() []string {
	signs := slices.Concat(between...)
	signs = slices.DeleteFunc(signs, func(s string) bool { return s == "-" })
	return slices.Concat(signs, otherSigns, []string{")", "if", "random", "skip"})
}

// P10.1: tokens that can't begin a term, in each place where one must begin.
func TestTermMustBegin(t *testing.T) {
	ahead := []string{"", "(", "( (", "-", "!", "- !", "- (", "a + ( - (", "( a ) * ("}
	for _, s := range slices.Concat(between...) {
		ahead = append(ahead, "a "+s, "( a "+s, "- 1 "+s+" !", "a || b && c "+s, "( a ) "+s+" (", "a + ( b ) "+s+" -")
	}
	for _, first := range ahead {
		l := toks(first)
		at := len(l)
		for _, s := range cantBegin() {
			for _, behind := range []string{"", " a", " )", " ( ( a", " if"} {
				l := toks(first + " " + s + behind)
				if got := holdsAt(t, l, 0); !got.same(told{nil, at, api.ErrParse}) {
					t.Errorf("%s %s%s: %v", first, s, behind, got)
				}
			}
		}
		for _, none := range []api.Token{{}, {Kind: api.TkEnd, Text: "a", N: 1, At: 1}, {Kind: 9, Text: "a"}, {Kind: -1}} {
			if got := parse(append(slices.Clone(l), none, toks("a")[0]), 0); !got.same(told{nil, at, api.ErrParse}) {
				t.Errorf("%s and %v: %v", first, none, got)
			}
		}
		if got := parse(l, 0); !got.same(told{nil, at, api.ErrParse}) {
			t.Errorf("%s: %v", first, got)
		}
	}
}

// P10.1: the longest term ahead of what can't go on with it; in a bracket, that can't stand there.
func TestBehindTerm(t *testing.T) {
	end := api.Token{Kind: api.TkEnd, At: 6}
	for _, first := range []string{"a", "7", "- a", "( a )", "a + b", "a || b < c * ! d", "! ( a < b )"} {
		l := toks(first)
		want := parse(l, 0)
		if want.e != api.OK || want.at != len(l) {
			t.Fatalf("%s: %v", first, want)
		}
		for _, s := range append(slices.Clone(otherSigns), "!", "(", "if", "random", "a", "0", "12") {
			for _, behind := range []string{"", " a", " + 1", " )"} {
				if got := parse(toks(first+" "+s+behind), 0); !got.same(want) {
					t.Errorf("%s %s%s: %v", first, s, behind, got)
				}
				if got := parse(toks("( "+first+" "+s+behind), 0); !got.same(told{nil, len(l) + 1, api.ErrParse}) {
					t.Errorf("( %s %s%s: %v", first, s, behind, got)
				}
			}
		}
		if got := parse(append(slices.Clone(l), end, toks("+")[0]), 0); !got.same(want) {
			t.Errorf("%s and the end: %v", first, got)
		}
		for n := range 3 {
			if got := parse(toks(strings.Repeat("( ", n+1)+first+strings.Repeat(" )", n)), 0); !got.same(told{nil, n + 1 + len(l) + n, api.ErrParse}) {
				t.Errorf("%s in %d brackets that are not closed: %v", first, n+1, got)
			}
		}
	}
	for _, c := range []struct {
		s  string
		at int
	}{
		{"( a + )", 3}, {"( a < b < c )", 4}, {"( a < b == c", 4}, {"( ( a ) < b < c )", 6}, {"- ( a", 3}, {"( a || b", 4}, {"( a ( b ) )", 2}, {"( )", 1}, {"( - )", 2},
	} {
		if got := parse(toks(c.s), 0); !got.same(told{nil, c.at, api.ErrParse}) {
			t.Errorf("%s: %v, not at %d", c.s, got, c.at)
		}
	}
}

// deeper tells the pieces ahead of what is to lie so deep, brackets and signs ahead as piece tells them, and those
// that close the brackets.
func deeper(n int, piece func(int) string) (string, string) {
	var open, shut []string
	for i := range n {
		open = append(open, piece(i))
		if piece(i) == "(" {
			shut = append(shut, ")")
		}
	}
	return strings.Join(open, " "), strings.Join(shut, " ")
}

// P10.1: what lies just as deep as may be, and deeper by one.
func TestDepth(t *testing.T) {
	const most = 24
	of := func(pieces ...string) func(int) string {
		return func(i int) string { return pieces[i%len(pieces)] }
	}
	for _, piece := range []func(int) string{
		of("("), of("-"), of("!"), of("(", "-"), of("-", "("), of("!", "(", "("), of("-", "!"), of("(", "(", "(", "-", "!"),
	} {
		open, shut := deeper(most, piece)
		whole := open + " a " + shut
		size := len(toks(whole))
		if got := holdsAt(t, toks(whole), 0); got.e != api.OK || got.at != size {
			t.Errorf("%s: %v", whole, got)
		}
		// One beside the other is no deeper.
		if got := holdsAt(t, toks(whole+" < "+whole), 0); got.e != api.OK || got.at != 2*size+1 {
			t.Errorf("two of %s: %v", whole, got)
		}
		if got := holdsAt(t, toks(open+" a + b "+shut), 0); got.e != api.OK {
			t.Errorf("%s a + b: %v", open, got)
		}
		for _, last := range []string{"(", "-", "!"} {
			for _, behind := range []string{"", " a", " a )", " ;", " )", " if", " ( - ! a"} {
				// Deeper at once, or behind a sign between two terms there.
				if got := holdsAt(t, toks(open+" "+last+behind), 0); !got.same(told{nil, most, api.ErrLong}) {
					t.Errorf("%s %s%s: %v", open, last, behind, got)
				}
				if piece(most-1) == "(" {
					if got := holdsAt(t, toks(open+" b * "+last+behind), 0); !got.same(told{nil, most + 2, api.ErrLong}) {
						t.Errorf("%s b * %s%s: %v", open, last, behind, got)
					}
				}
				if got := holdsAt(t, toks("a + "+whole+" - "+open+" "+last+behind), 0); !got.same(told{nil, 3 + size + most, api.ErrLong}) {
					t.Errorf("a + .. - %s %s%s: %v", open, last, behind, got)
				}
			}
			// A wrong token ahead of what lies too deep is the first one.
			for n := range most + 1 {
				less, _ := deeper(n, piece)
				if got := holdsAt(t, toks(less+" * "+open+" "+last+" a"), 0); !got.same(told{nil, n, api.ErrParse}) {
					t.Errorf("%s * %s %s: %v", less, open, last, got)
				}
			}
		}
		for _, s := range cantBegin() {
			if got := holdsAt(t, toks(open+" "+s), 0); !got.same(told{nil, most, api.ErrParse}) {
				t.Errorf("%s %s: %v", open, s, got)
			}
		}
	}
}

// P10.1: how deep it lies counts what is open alone.
func TestManyBesideOneAnother(t *testing.T) {
	for _, one := range []string{"- a", "( a )", "! ( - b )", "( ( 1 ) - ( - 2 ) )"} {
		s := one + strings.Repeat(" + "+one, 40)
		if got := holdsAt(t, toks(s), 0); got.e != api.OK || got.at != len(toks(s)) {
			t.Errorf("%s: %v", s, got)
		}
		if got := holdsAt(t, toks("( "+s+" )"), 0); got.e != api.OK {
			t.Errorf("( %s ): %v", s, got)
		}
	}
}

// P10.1: places within the tokens, behind them, and below 0.
func TestPlace(t *testing.T) {
	l := toks("x = - a * ( b + 1 ) ; }")
	for _, c := range []struct {
		at, next int
		e        api.Errno
		want     string
	}{
		{0, 1, api.OK, "x"},
		{1, 1, api.ErrParse, "nothing"},
		{2, 10, api.OK, "[-(a)*[b+I]]"},
		{3, 10, api.OK, "[a*[b+I]]"},
		{4, 4, api.ErrParse, "nothing"},
		{5, 10, api.OK, "[b+I]"},
		{6, 9, api.OK, "[b+I]"},
		{8, 9, api.OK, "I"},
		{9, 9, api.ErrParse, "nothing"},
		{11, 11, api.ErrParse, "nothing"},
		{12, 12, api.ErrParse, "nothing"},
		{13, 13, api.ErrParse, "nothing"},
		{1000, 1000, api.ErrParse, "nothing"},
		{math.MaxInt - 1, math.MaxInt - 1, api.ErrParse, "nothing"},
		{math.MaxInt, math.MaxInt, api.ErrParse, "nothing"},
		{-1, 0, api.ErrArg, "nothing"},
		{-2, 0, api.ErrArg, "nothing"},
		{math.MinInt, 0, api.ErrArg, "nothing"},
	} {
		if got := parse(l, c.at); got.at != c.next || got.e != c.e || written(got.nodes) != c.want {
			t.Errorf("at %d: %s, %d, %d", c.at, written(got.nodes), got.at, got.e)
		}
	}
	for _, none := range [][]api.Token{nil, {}, l[:0]} {
		for _, at := range []int{0, 1, 7, math.MaxInt} {
			if got := parse(none, at); !got.same(told{nil, at, api.ErrParse}) {
				t.Errorf("no tokens, at %d: %v", at, got)
			}
		}
		if got := parse(none, -1); !got.same(told{nil, 0, api.ErrArg}) {
			t.Errorf("no tokens, at -1: %v", got)
		}
	}
}

// P10.1: all rows of a few tokens, held against the plain reader.
func TestAllShortRows(t *testing.T) {
	alphabet := toks("a 7 - ! ( ) < == * && ; if")
	alphabet = append(alphabet, api.Token{Kind: api.TkEnd, At: 5})
	const longest = 5
	row := make([]api.Token, 0, longest)
	var fill func()
	fill = func() {
		holdsAt(t, row, 0)
		if len(row) == longest {
			return
		}
		for _, tok := range alphabet {
			tok.At += len(row)
			row = append(row, tok)
			fill()
			row = row[:len(row)-1]
		}
	}
	fill()
}

// someTerm makes the pieces of a term, or nearly of one.
func someTerm(act func(int) int, deep int) string {
	all := slices.Concat(between...)
	switch k := act(10); {
	case deep == 0 || k == 0:
		return []string{"a", "b", "0", "1", "2"}[act(5)]
	case k < 3:
		return []string{"- ", "! "}[act(2)] + someTerm(act, deep-1)
	case k < 5:
		return "( " + someTerm(act, deep-1) + " )"
	}
	s := someTerm(act, deep-1)
	for range act(5) {
		s += " " + all[act(len(all))] + " " + someTerm(act, deep-1)
	}
	return s
}

// P10.1: terms, and terms that are spoilt, held against the plain reader.
func TestManyTerms(t *testing.T) {
	act := acts(10)
	all := slices.Concat(between...)
	pieces := slices.Concat(all, otherSigns, []string{"a", "b", "1", "!", "(", ")", "if"})
	right, wrong := 0, 0
	for range 4000 {
		whole := someTerm(act, 4)
		if got := holdsAt(t, toks(whole), 0); got.e == api.OK {
			right++
			isTree(t, got.nodes)
		}
		s := strings.Fields(whole)
		for range 1 + act(3) {
			at := act(len(s))
			switch act(3) {
			case 0:
				s[at] = pieces[act(len(pieces))]
			case 1:
				s = slices.Insert(s, at, pieces[act(len(pieces))])
			case 2:
				s = append(slices.Delete(s, at, at+1), "a")
			}
		}
		l := toks(strings.Join(s, " "))
		if got := holdsAt(t, l, act(len(l))); got.e != api.OK {
			wrong++
		}
	}
	if right < 1000 || wrong < 500 {
		t.Errorf("%d were terms, %d were none", right, wrong)
	}
}

// isTree holds a term against the trees of layer 9.
func isTree(t *testing.T, nodes []api.Node) {
	t.Helper()
	l := append([]api.Node{
		{Op: api.OpUnit, Kids: 1}, {Op: api.OpMain, Kids: 1}, {Op: api.OpBlock, Kids: 1}, {Op: api.OpPrint, Kids: 1},
	}, nodes...)
	if at, e := tree.Check(l); e != api.OK {
		t.Fatalf("%v: wrong at %d", nodes, at-4)
	}
}

// P10.1: tokens as layer 8 tells them.
func TestOfTexts(t *testing.T) {
	l, _, _ := token.All("(a1<=-2)!=!b # c\n&&x%10>c!1;")
	nodes, next, e := Parse(l, 0)
	want := []api.Node{
		{Op: api.OpAnd, Kids: 2, At: 17},
		{Op: api.OpNe, Kids: 2, At: 8},
		{Op: api.OpLe, Kids: 2, At: 3},
		{Op: api.OpName, Name: "a1", At: 1},
		{Op: api.OpNeg, Kids: 1, At: 5},
		{Op: api.OpNumber, N: 2, At: 6},
		{Op: api.OpNot, Kids: 1, At: 10},
		{Op: api.OpName, Name: "b", At: 11},
		{Op: api.OpGt, Kids: 2, At: 23},
		{Op: api.OpMod, Kids: 2, At: 20},
		{Op: api.OpName, Name: "x", At: 19},
		{Op: api.OpNumber, N: 10, At: 21},
		{Op: api.OpName, Name: "c", At: 24},
	}
	if !slices.Equal(nodes, want) || next != 15 || e != api.OK {
		t.Errorf("%v, %d, %d", nodes, next, e)
	}
	isTree(t, nodes)
}

// P10.1: what came in reads as before, and what goes out is the caller's own.
func TestOwn(t *testing.T) {
	for _, s := range []string{"a", "- ( a + 1 ) * b ;", "( a + ;", "a < b < c"} {
		l := toks(s)
		before := slices.Clone(l)
		one := parse(l, 0)
		other := parse(l, 0)
		kept := slices.Clone(other.nodes)
		clear(one.nodes)
		_ = append(one.nodes, one.nodes...)
		if !slices.Equal(l, before) {
			t.Errorf("%s: the tokens were changed to %v", s, l)
		}
		clear(l)
		if !slices.Equal(other.nodes, kept) || !parse(before, 0).same(other) {
			t.Errorf("%s: %v, not %v", s, other.nodes, kept)
		}
	}
	// What lies behind the length is neither read nor written.
	whole := toks("a + b * c")
	before := slices.Clone(whole)
	if got := parse(whole[:1], 0); got.at != 1 || got.e != api.OK || written(got.nodes) != "a" {
		t.Errorf("behind the length: %v", got)
	}
	if got := parse(whole[:2], 0); !got.same(told{nil, 2, api.ErrParse}) {
		t.Errorf("a sign at the length: %v", got)
	}
	if !slices.Equal(whole, before) {
		t.Errorf("changed to %v", whole)
	}
}

// P10.1: long terms take no room that there isn't, and their time grows no faster than they do.
func TestLongTerms(t *testing.T) {
	const size = 1 << 18
	a := toks("a")[0]
	for _, signs := range []string{"+", "||", "+ *", "|| && < + * / - && >= %", "* + < && ||"} {
		row := toks(signs)
		l := []api.Token{a}
		for i := range size {
			s := row[i%len(row)]
			l = append(l, s, a)
		}
		got := parse(l, 0)
		if got.e != api.OK || got.at != len(l) || len(got.nodes) != len(l) {
			t.Errorf("%s: %d nodes, %d, %d", signs, len(got.nodes), got.at, got.e)
		}
		if tree.End(got.nodes, 0) != len(l) {
			t.Errorf("%s: ends at %d", signs, tree.End(got.nodes, 0))
		}
	}
	l := slices.Concat(toks("( ( ( ( ( ("), slices.Repeat(toks("a +"), size))
	if got := parse(l, 0); !got.same(told{nil, len(l), api.ErrParse}) {
		t.Errorf("not closed: %d, %d", got.at, got.e)
	}
	if got := parse(slices.Repeat(toks("("), size), 0); !got.same(told{nil, 24, api.ErrLong}) {
		t.Errorf("open ones alone: %d, %d", got.at, got.e)
	}
}

// P10.2
func TestSignAndLevel(t *testing.T) {
	type kind struct {
		text  string
		level int
	}
	want := map[int]kind{
		api.OpNumber: {"", 7},
		api.OpName:   {"", 7},
		api.OpNeg:    {"-", 6},
		api.OpNot:    {"!", 6},
		api.OpAdd:    {"+", 4},
		api.OpSub:    {"-", 4},
		api.OpMul:    {"*", 5},
		api.OpDiv:    {"/", 5},
		api.OpMod:    {"%", 5},
		api.OpEq:     {"==", 3},
		api.OpNe:     {"!=", 3},
		api.OpLt:     {"<", 3},
		api.OpLe:     {"<=", 3},
		api.OpGt:     {">", 3},
		api.OpGe:     {">=", 3},
		api.OpAnd:    {"&&", 2},
		api.OpOr:     {"||", 1},
	}
	ops := []int{math.MinInt, math.MinInt + 1, math.MinInt32, math.MaxInt32, math.MaxInt - 1, math.MaxInt, 1 << 32, 1<<32 + api.OpNeg, 256 + api.OpOr}
	for op := -50; op < 300; op++ {
		ops = append(ops, op)
	}
	for _, op := range ops {
		if got := (kind{Sign(op), Level(op)}); got != want[op] {
			t.Errorf("%d: %v, not %v", op, got, want[op])
		}
	}
}

// Example 1.
func TestExample(t *testing.T) {
	l, _, _ := token.All("a - 1 - b * 2")
	nodes, next, e := Parse(l, 0)
	want := []api.Node{
		{Op: api.OpSub, Kids: 2, At: 6},
		{Op: api.OpSub, Kids: 2, At: 2},
		{Op: api.OpName, Name: "a", At: 0},
		{Op: api.OpNumber, N: 1, At: 4},
		{Op: api.OpMul, Kids: 2, At: 10},
		{Op: api.OpName, Name: "b", At: 8},
		{Op: api.OpNumber, N: 2, At: 12},
	}
	if !slices.Equal(nodes, want) || next != 7 || e != api.OK {
		t.Errorf("%v, %d, %d", nodes, next, e)
	}
}

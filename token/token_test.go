package token

import (
	"slices"
	"strings"
	"testing"

	"retrace/api"
)

const (
	least = -1 << 63
	most  = 1<<63 - 1
)

const (
	letters = "abcdefghijklmnopqrstuvwxyzABCDEFGHIJKLMNOPQRSTUVWXYZ_"
	digits  = "0123456789"
	blanks  = "\t\n\r "
)

// words and signs are those of the chapter, in its order.
var (
	words = strings.Fields("chan proc main var if else while select case when after start sleep random print assert skip stop")
	signs = strings.Fields("{ } ( ) [ ] ; , : = == ! != ? + - * / % < <= > >= && ||")
)

// told is what Next tells.
type told struct {
	t    api.Token
	next int
	e    api.Errno
}

// acts tells numbers that follow from seed alone, each below the bound it is asked for.
func acts(seed uint32) func(bound int) int {
	return func(bound int) int {
		seed = seed*1664525 + 1013904223
		return int(seed>>8) % bound
	}
}

// among tells whether s is made of bytes of the list alone.
func among(s, list string) bool {
	for i := 0; i < len(s); i++ {
		if strings.IndexByte(list, s[i]) < 0 {
			return false
		}
	}
	return true
}

// longest tells the longest beginning of s that is made of bytes of the list.
func longest(s, list string) string {
	n := 0
	for n < len(s) && strings.IndexByte(list, s[n]) >= 0 {
		n++
	}
	return s[:n]
}

// plainStart tells where the first piece of s from at on begins.
func plainStart(s string, at int) int {
	remark := false
	for ; at < len(s); at++ {
		remark = s[at] != 10 && (remark || s[at] == 35)
		if !remark && strings.IndexByte(blanks, s[at]) < 0 {
			return at
		}
	}
	return at
}

// plainNumber tells a number of which the digits are known, by its kind and its worth, or its error.
func plainNumber(text, rest string) (int, api.Errno) {
	if len(text) > 1 && text[0] == '0' {
		return 0, api.ErrForm
	}
	if len(text) > 18 {
		return 0, api.ErrLong
	}
	if rest != "" && among(rest[:1], letters) {
		return 0, api.ErrForm
	}
	n := 0
	for i := range len(text) {
		n = n*10 + strings.IndexByte(digits, text[i])
	}
	return n, api.OK
}

// plain is Next, by lists of bytes, words and signs.
func plain(s string, at int) told {
	if at < 0 || at > len(s) {
		return told{e: api.ErrArg}
	}
	start := plainStart(s, at)
	rest := s[start:]
	if rest == "" {
		return told{api.Token{Kind: api.TkEnd, At: start}, start, api.OK}
	}
	if among(rest[:1], digits) {
		text := longest(rest, digits)
		n, e := plainNumber(text, rest[len(text):])
		if e != api.OK {
			return told{next: start, e: e}
		}
		return told{api.Token{Kind: api.TkNumber, Text: text, N: n, At: start}, start + len(text), api.OK}
	}
	if text := longest(rest, letters+digits); text != "" {
		if len(text) > 16 {
			return told{next: start, e: api.ErrLong}
		}
		kind := api.TkName
		if slices.Contains(words, text) {
			kind = api.TkWord
		}
		return told{api.Token{Kind: kind, Text: text, At: start}, start + len(text), api.OK}
	}
	for size := min(2, len(rest)); size > 0; size-- {
		if slices.Contains(signs, rest[:size]) {
			return told{api.Token{Kind: api.TkSign, Text: rest[:size], At: start}, start + size, api.OK}
		}
	}
	return told{next: start, e: api.ErrSign}
}

// plainAll is All, by plain.
func plainAll(s string) ([]api.Token, int, api.Errno) {
	if len(s) > 65536 {
		return nil, 0, api.ErrLong
	}
	var l []api.Token
	for at := 0; ; {
		p := plain(s, at)
		if p.e != api.OK {
			return nil, p.next, p.e
		}
		l = append(l, p.t)
		if p.t.Kind == api.TkEnd {
			return l, p.next, api.OK
		}
		at = p.next
	}
}

// pieces are tokens, some that are none, blanks and remarks.
func pieces() []string {
	l := slices.Concat(words, signs)
	for _, w := range words {
		l = append(l, w+"s", w[:len(w)-1], w+"_", w+"0", strings.ToUpper(w), w+w, "_"+w, w[1:])
	}
	return append(l,
		"a", "Z", "_", "z9", "A0_b", "_a1", "__", strings.Repeat("n", 16), strings.Repeat("n", 17),
		"abcdefghijklmno9", "abcdefghijklmno9_", strings.Repeat("_", 16), strings.Repeat("Q", 40),
		"0", "1", "9", "10", "42", "999999999999999999", "100000000000000000", "123456789012345678",
		"1234567890123456789", "9223372036854775807", "9223372036854775808", "00", "01", "012", "000000000000000000000",
		"0123456789012345678", "1a", "0a", "0_", "9Z", "01a", "12345678901234567890a", "123456789012345678_",
		" ", "\t", "\n", "\r", "\r\n", "  \t", "#", "# a remark", "#\n", "# c ! 1; # 2\n", "##\n#\n", "#\r", "# \x00\xff\n",
		"&", "|", "&|", "&&&", "|||", "===", "!==", "<==", ">==", "<<", ">>", "=<", "=>", "<>", "--", "++", "->", "?!",
		"\"", "'", "$", "@", ".", "\\", "^", "`", "~", "\v", "\f", "\x00", "\x7f", "\x80", "\xff",
		"\u00e4", "a\u00e4", "1\u00e4", "\u0663", "\u00a0", "\u2028", "\u0085", "a\u0301",
	)
}

// texts are single pieces, each single byte, pairs of pieces side by side and with blanks, and rows of pieces and of any bytes.
func texts() []string {
	l := append(pieces(), "", "c!x1;", "c ! x1; # remark\n<=12", "chan c;\nmain {\n\tprint 1;\n}\n")
	for b := range 256 {
		l = append(l, string([]byte{byte(b)}), string([]byte{'a', byte(b), 'c'}), string([]byte{'1', byte(b), '2'}),
			string([]byte{byte(b), byte(b)}), string([]byte{byte(b), '='}), string([]byte{' ', byte(b)}))
	}
	for _, one := range signs {
		for _, other := range signs {
			l = append(l, one+other, one+" "+other)
		}
	}
	some := pieces()
	next := acts(8)
	for range 3000 {
		var b strings.Builder
		for range next(8) {
			b.WriteString(some[next(len(some))])
			b.WriteString(blanks[:next(5)])
		}
		l = append(l, b.String())
	}
	const dense = "aifZ_019 \t\n\r#&|=!<>;+x"
	for range 3000 {
		b := make([]byte, next(30))
		for i := range b {
			b[i] = dense[next(len(dense))]
			if next(40) == 0 {
				b[i] = byte(next(256))
			}
		}
		l = append(l, string(b))
	}
	return l
}

func next(s string, at int) told {
	t, to, e := Next(s, at)
	return told{t, to, e}
}

// wantToken is a token and the place behind it.
func wantToken(kind int, text string, n, at int) told {
	return told{api.Token{Kind: kind, Text: text, N: n, At: at}, at + len(text), api.OK}
}

// wantNone is a place where there is no token, and why.
func wantNone(at int, e api.Errno) told {
	return told{next: at, e: e}
}

// P8.1
func TestNextEdges(t *testing.T) {
	name16 := "ab34567890123456"
	for _, c := range []struct {
		s    string
		at   int
		want told
	}{
		{"", 0, wantToken(api.TkEnd, "", 0, 0)},
		{"a", 1, wantToken(api.TkEnd, "", 0, 1)},
		{" \t\r\n", 0, wantToken(api.TkEnd, "", 0, 4)},
		{"a # b", 1, wantToken(api.TkEnd, "", 0, 5)},
		{"#", 0, wantToken(api.TkEnd, "", 0, 1)},
		{"#\n", 0, wantToken(api.TkEnd, "", 0, 2)},
		{"# b\nc", 0, wantToken(api.TkName, "c", 0, 4)},
		{"# b\rc", 0, wantToken(api.TkEnd, "", 0, 5)},
		{"# b\n\t# d\n\r 7;", 0, wantToken(api.TkNumber, "7", 7, 11)},
		{"# b c", 1, wantToken(api.TkName, "b", 0, 2)},
		{"x#y", 0, wantToken(api.TkName, "x", 0, 0)},
		{"7#y", 0, wantToken(api.TkNumber, "7", 7, 0)},
		{"\f", 0, wantNone(0, api.ErrSign)},
		{" \v", 0, wantNone(1, api.ErrSign)},
		{"ab1", 1, wantToken(api.TkName, "b1", 0, 1)},
		{"ab1", 2, wantToken(api.TkNumber, "1", 1, 2)},
		{"1a", 1, wantToken(api.TkName, "a", 0, 1)},
		{"\t" + name16, 0, wantToken(api.TkName, name16, 0, 1)},
		{name16 + " 7", 0, wantToken(api.TkName, name16, 0, 0)},
		{name16 + "-", 0, wantToken(api.TkName, name16, 0, 0)},
		{"\n" + name16 + "7", 0, wantNone(1, api.ErrLong)},
		{name16 + "_", 0, wantNone(0, api.ErrLong)},
		{name16 + "_", 1, wantToken(api.TkName, name16[1:]+"_", 0, 1)},
		{"0", 0, wantToken(api.TkNumber, "0", 0, 0)},
		{"0;", 0, wantToken(api.TkNumber, "0", 0, 0)},
		{"10", 1, wantToken(api.TkNumber, "0", 0, 1)},
		{" 00", 0, wantNone(1, api.ErrForm)},
		{"01", 0, wantNone(0, api.ErrForm)},
		{"0x1", 0, wantNone(0, api.ErrForm)},
		{"0_", 0, wantNone(0, api.ErrForm)},
		{"1e3", 0, wantNone(0, api.ErrForm)},
		{"999999999999999999", 0, wantToken(api.TkNumber, "999999999999999999", 999999999999999999, 0)},
		{"123456789012345678+", 0, wantToken(api.TkNumber, "123456789012345678", 123456789012345678, 0)},
		{"123456789012345678a", 0, wantNone(0, api.ErrForm)},
		{"1000000000000000000", 0, wantNone(0, api.ErrLong)},
		{"1000000000000000000a", 0, wantNone(0, api.ErrLong)},
		{"0000000000000000000a", 0, wantNone(0, api.ErrForm)},
		{"& &", 0, wantNone(0, api.ErrSign)},
		{" |", 0, wantNone(1, api.ErrSign)},
		{"|&", 0, wantNone(0, api.ErrSign)},
		{"&=", 0, wantNone(0, api.ErrSign)},
		{"&&&", 0, wantToken(api.TkSign, "&&", 0, 0)},
		{"&&&", 2, wantNone(2, api.ErrSign)},
		{"===", 0, wantToken(api.TkSign, "==", 0, 0)},
		{"===", 1, wantToken(api.TkSign, "==", 0, 1)},
		{"= =", 0, wantToken(api.TkSign, "=", 0, 0)},
		{"=!", 0, wantToken(api.TkSign, "=", 0, 0)},
		{"++", 0, wantToken(api.TkSign, "+", 0, 0)},
		{"+=", 0, wantToken(api.TkSign, "+", 0, 0)},
		{"-1", 0, wantToken(api.TkSign, "-", 0, 0)},
		{"x.y", 1, wantNone(1, api.ErrSign)},
		{"\u00e4", 0, wantNone(0, api.ErrSign)},
		{"\x00", 0, wantNone(0, api.ErrSign)},
	} {
		if got := next(c.s, c.at); got != c.want {
			t.Errorf("Next(%q, %d) = %+v, not %+v", c.s, c.at, got, c.want)
		}
	}
}

// P8.1
func TestNextArg(t *testing.T) {
	for _, s := range []string{"", "a", "abc ", "&", "01", strings.Repeat("x", 70000)} {
		for _, at := range []int{least, least + 1, -2, -1, len(s) + 1, len(s) + 2, most - 1, most} {
			if got := next(s, at); got != wantNone(0, api.ErrArg) {
				t.Errorf("Next of %d bytes at %d = %+v", len(s), at, got)
			}
		}
	}
}

// P8.1
func TestNextWordsAndSigns(t *testing.T) {
	for _, w := range words {
		for _, behind := range []string{"", " ", ";", "#", "\n", "\xff"} {
			if got := next(w+behind, 0); got != wantToken(api.TkWord, w, 0, 0) {
				t.Errorf("Next(%q, 0) = %+v", w+behind, got)
			}
		}
		for _, s := range []string{w + "s", w + "0", w + "_", strings.ToUpper(w), "_" + w, w + w} {
			if got := next(s, 0); got != wantToken(api.TkName, s, 0, 0) {
				t.Errorf("Next(%q, 0) = %+v", s, got)
			}
		}
	}
	for _, sign := range signs {
		for _, behind := range []string{"", " ", "a", "0", ";", "?", "#", "\xff"} {
			if got := next(sign+behind, 0); got != wantToken(api.TkSign, sign, 0, 0) {
				t.Errorf("Next(%q, 0) = %+v", sign+behind, got)
			}
		}
	}
}

// P8.1
func TestNextIsPlain(t *testing.T) {
	for _, s := range texts() {
		for at := -1; at <= len(s)+1; at++ {
			if got, want := next(s, at), plain(s, at); got != want {
				t.Fatalf("Next(%q, %d) = %+v, not %+v", s, at, got, want)
			}
		}
	}
}

// P8.1: no limit but All's holds for the text's length.
func TestNextLong(t *testing.T) {
	s := strings.Repeat(" ", 70000) + "x" + strings.Repeat("#", 70000)
	if got := next(s, 0); got != wantToken(api.TkName, "x", 0, 70000) {
		t.Errorf("Next of a long text = %+v", got)
	}
	if got := next(s, 70001); got != wantToken(api.TkEnd, "", 0, 140001) {
		t.Errorf("Next behind a long remark = %+v", got)
	}
}

// P8.2
func TestAllExample(t *testing.T) {
	got, at, e := All("c!x1;")
	want := []api.Token{
		{Kind: api.TkName, Text: "c", At: 0},
		{Kind: api.TkSign, Text: "!", At: 1},
		{Kind: api.TkName, Text: "x1", At: 2},
		{Kind: api.TkSign, Text: ";", At: 4},
		{Kind: api.TkEnd, At: 5},
	}
	if !slices.Equal(got, want) || at != 5 || e != api.OK {
		t.Errorf("All = %+v, %d, %d", got, at, e)
	}
	for _, c := range []struct {
		s  string
		at int
		e  api.Errno
	}{
		{"012", 0, api.ErrForm},
		{"1a", 0, api.ErrForm},
		{"a & 01", 2, api.ErrSign},
		{"a 01 &", 2, api.ErrForm},
		{"# &\na23456789012345678 &", 4, api.ErrLong},
		{"main {\n\tx = 1234567890123456789;\n}", 12, api.ErrLong},
	} {
		if l, at, e := All(c.s); len(l) != 0 || at != c.at || e != c.e {
			t.Errorf("All(%q) = %+v, %d, %d", c.s, l, at, e)
		}
	}
}

// P8.2
func TestAllIsPlain(t *testing.T) {
	for _, s := range texts() {
		got, at, e := All(s)
		want, wantAt, wantE := plainAll(s)
		if !slices.Equal(got, want) || at != wantAt || e != wantE {
			t.Fatalf("All(%q) = %+v, %d, %d, not %+v, %d, %d", s, got, at, e, want, wantAt, wantE)
		}
	}
}

// P8.2
func TestAllLimit(t *testing.T) {
	const limit = 65536
	for _, c := range []struct {
		s    string
		size int
	}{
		{strings.Repeat(";", limit), limit + 1},
		{strings.Repeat(" ", limit), 1},
		{"#" + strings.Repeat("\xff", limit-1), 1},
		{strings.Repeat("x ", limit/2), limit/2 + 1},
		{strings.Repeat("#\n", limit/2-1) + "7;", 3},
	} {
		l, at, e := All(c.s)
		if len(l) != c.size || at != limit || e != api.OK {
			t.Errorf("All of %d bytes: %d tokens, %d, %d", len(c.s), len(l), at, e)
		}
		if l, at, e := All(c.s + "\n"); len(l) != 0 || at != 0 || e != api.ErrLong {
			t.Errorf("All of one byte too many: %d tokens, %d, %d", len(l), at, e)
		}
	}
	if _, at, e := All(strings.Repeat(" ", limit-1) + "&"); at != limit-1 || e != api.ErrSign {
		t.Errorf("All of a wrong last byte: %d, %d", at, e)
	}
	if _, at, e := All(" &" + strings.Repeat(" ", limit-1)); at != 0 || e != api.ErrLong {
		t.Errorf("All of too many bytes, the second one wrong: %d, %d", at, e)
	}
}

// P8.2: the list is the caller's own.
func TestAllOwn(t *testing.T) {
	const s = "c ! x1; 7"
	one, _, _ := All(s)
	other, _, _ := All(s)
	want := slices.Clone(other)
	clear(one)
	_ = append(one[:2], one...)
	if again, _, _ := All(s); !slices.Equal(other, want) || !slices.Equal(again, want) {
		t.Error("a list that was changed is seen in another one")
	}
}

// P8.3
func TestWordAndName(t *testing.T) {
	for _, s := range texts() {
		name := s != "" && len(s) <= 16 && among(s, letters+digits) && !among(s[:1], digits)
		word := slices.Contains(words, s)
		if Word(s) != word {
			t.Errorf("Word(%q) = %t", s, !word)
		}
		if Name(s) != (name && !word) {
			t.Errorf("Name(%q) = %t", s, Name(s))
		}
	}
	for _, s := range []string{" a", "a ", "a\n", "a#", "#a", "a;", "chan ", " chan", "chanchan ", "0", "a-b", "a\x00"} {
		if Word(s) || Name(s) {
			t.Errorf("Word(%q) = %t, Name = %t", s, Word(s), Name(s))
		}
	}
	for _, s := range []string{"a", "_", "_0", "Chan", "chanc", "cha", "a234567890123456"} {
		if Word(s) || !Name(s) {
			t.Errorf("Word(%q) = %t, Name = %t", s, Word(s), Name(s))
		}
	}
}

// P8.4
func TestToldAgain(t *testing.T) {
	between := []string{" ", "\t", "\n", "\r", "\r\n", "#\n", " # & 01 a\n", "#\x00\xff#\n\t", "\n\n"}
	var some []string
	for _, s := range pieces() {
		if l, _, e := All(s); e == api.OK && len(l) == 2 && l[0].Text == s {
			some = append(some, s)
		}
	}
	next := acts(84)
	for round := range 600 {
		var want []api.Token
		var b strings.Builder
		if round%2 == 0 {
			b.WriteString(between[next(len(between))])
		}
		for range next(40) {
			one := plain(some[next(len(some))], 0).t
			one.At = b.Len()
			want = append(want, one)
			b.WriteString(one.Text)
			b.WriteString(between[next(len(between))])
		}
		want = append(want, api.Token{Kind: api.TkEnd, At: b.Len()})
		got, at, e := All(b.String())
		if !slices.Equal(got, want) || at != b.Len() || e != api.OK {
			t.Fatalf("All(%q) = %+v, %d, %d, not %+v", b.String(), got, at, e, want)
		}
	}
	if len(some) < 60 {
		t.Errorf("%d tokens alone were put together", len(some))
	}
}

// P8.4: of the tokens of any text, put together, the kinds, texts and numbers are the same.
func TestPutTogether(t *testing.T) {
	for _, s := range texts() {
		l, _, e := All(s)
		if e != api.OK {
			continue
		}
		var b strings.Builder
		for i := range l {
			l[i].At = b.Len()
			b.WriteString(l[i].Text)
			if i < len(l)-1 {
				b.WriteString(" ")
			}
		}
		// The end lies behind the last blank.
		again, _, e := All(b.String())
		if !slices.Equal(again, l) || e != api.OK {
			t.Fatalf("of %q, put together: %+v, %d, not %+v", s, again, e, l)
		}
	}
}

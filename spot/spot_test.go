package spot

import (
	"slices"
	"strings"
	"testing"
)

const (
	least = -1 << 63
	most  = 1<<63 - 1
)

// acts tells numbers that follow from seed alone, each below the bound it is asked for.
func acts(seed uint32) func(bound int) int {
	return func(bound int) int {
		seed = seed*1664525 + 1013904223
		return int(seed>>8) % bound
	}
}

// place is a line and a column.
type place struct{ line, col int }

// plain tells the lines of s, and of each of its places, and of its end, the
// line and the column: byte by byte, as the chapter has them.
func plain(s string) ([]string, []place) {
	lines := []string{""}
	var places []place
	for i := 0; i < len(s); i++ {
		last := len(lines) - 1
		places = append(places, place{last + 1, len(lines[last]) + 1})
		if s[i] == 10 {
			lines = append(lines, "")
		} else {
			lines[last] += s[i : i+1]
		}
	}
	last := len(lines) - 1
	return lines, append(places, place{last + 1, len(lines[last]) + 1})
}

// noise tells a text of n bytes, of which one of rare is a byte 10 and the others any.
func noise(next func(int) int, n, rare int) string {
	b := make([]byte, n)
	for i := range b {
		b[i] = byte(next(256))
		if next(rare) == 0 {
			b[i] = 10
		}
	}
	return string(b)
}

// texts are the edges that the chapter has, all short texts of two bytes, and long ones of any bytes.
func texts() []string {
	l := []string{
		"", "a", "\n", "a\nbc", "a\n", "\na", "\n\n", "\n\n\n", "a\n\nb", "\n\na\n\n", "a\nbc\n\n\ndef\n",
		"\r\n", "a\r\nb\r\n", "\r", "\v\f\t", "\x00", "\x00\n\x00", "\xff\n\xfe\n", "\x8a\n\x8a",
		"\u00e4\n\u20ac\u20ac\n", "\u2028\u2029\u0085", "\xe2\x82\n\xac", `\n`, "chan c;\nmain {\n\tprint 1;\n}\n",
		strings.Repeat("x", 300), strings.Repeat("\n", 300), strings.Repeat("ab\n", 100),
	}
	for n := 1; n <= 6; n++ {
		for bits := range 1 << n {
			b := make([]byte, n)
			for i := range b {
				b[i] = 'a' - byte(bits>>i&1)*('a'-10)
			}
			l = append(l, string(b))
		}
	}
	// Each single byte, that none but 10 ends a line.
	for b := range 256 {
		l = append(l, string([]byte{'a', byte(b), 'c'}))
	}
	next := acts(7)
	for i := range 60 {
		l = append(l, noise(next, next(120), 1+i))
	}
	return l
}

// gone goes over s; it holds the numbers against 1, 2, 3 and so on.
func gone(t *testing.T, s string) []string {
	t.Helper()
	var got []string
	for n, line := range Each(s) {
		if n != len(got)+1 {
			t.Fatalf("%q: Each tells the number %d, want %d", s, n, len(got)+1)
		}
		got = append(got, line)
	}
	return got
}

// P7.1
func TestLines(t *testing.T) {
	for _, c := range []struct {
		s    string
		want int
	}{
		{"", 1}, {"a", 1}, {"a\nbc", 2}, {"a\n", 2}, {"\n", 2}, {"\n\n", 3}, {"\na", 2},
		{"a\n\nb", 3}, {"a\r\nb\r", 2}, {`a\nb`, 1}, {"\x8a\u2028\u0085", 1}, {strings.Repeat("\n", 1000), 1001},
	} {
		if got := Lines(c.s); got != c.want {
			t.Errorf("Lines(%q) %d, want %d", c.s, got, c.want)
		}
	}
	for _, s := range texts() {
		lines, _ := plain(s)
		if got := Lines(s); got != len(lines) {
			t.Errorf("Lines(%q) %d, want %d", s, got, len(lines))
		}
	}
}

// P7.1
func TestLine(t *testing.T) {
	for _, c := range []struct {
		s    string
		n    int
		want string
		ok   bool
	}{
		{"", 0, "", false}, {"", 1, "", true}, {"", 2, "", false},
		{"a\nbc", 0, "", false}, {"a\nbc", 1, "a", true}, {"a\nbc", 2, "bc", true}, {"a\nbc", 3, "", false},
		{"a\n", 1, "a", true}, {"a\n", 2, "", true}, {"a\n", 3, "", false},
		{"\n\na", 1, "", true}, {"\n\na", 2, "", true}, {"\n\na", 3, "a", true}, {"\n\na", 4, "", false},
		{"a\r\nb", 1, "a\r", true}, {"a\nbc", -1, "", false}, {"a\nbc", -2, "", false},
		{"a\nbc", least, "", false}, {"a\nbc", most, "", false}, {"a\nbc", least + 1, "", false},
		{"a\nbc", 1 + 1<<32, "", false}, {"a\nbc", 1 + 1<<16, "", false}, {"a\nbc", 1 + 1<<8, "", false},
	} {
		if got, ok := Line(c.s, c.n); got != c.want || ok != c.ok {
			t.Errorf("Line(%q, %d) %q %t, want %q %t", c.s, c.n, got, ok, c.want, c.ok)
		}
	}
	for _, s := range texts() {
		lines, _ := plain(s)
		for i, want := range lines {
			if got, ok := Line(s, i+1); got != want || !ok {
				t.Errorf("Line(%q, %d) %q %t, want %q", s, i+1, got, ok, want)
			}
		}
		for _, n := range []int{least, -len(lines), -1, 0, len(lines) + 1, len(lines) + 2, most} {
			if got, ok := Line(s, n); got != "" || ok {
				t.Errorf("Line(%q, %d) %q %t, want nothing", s, n, got, ok)
			}
		}
	}
}

// P7.1
func TestEach(t *testing.T) {
	for _, c := range []struct {
		s    string
		want []string
	}{
		{"", []string{""}}, {"a", []string{"a"}}, {"\n", []string{"", ""}}, {"a\n", []string{"a", ""}},
		{"a\nbc", []string{"a", "bc"}}, {"\n\n", []string{"", "", ""}}, {"a\n\nb", []string{"a", "", "b"}},
		{"a\r\nb", []string{"a\r", "b"}},
	} {
		if got := gone(t, c.s); !slices.Equal(got, c.want) {
			t.Errorf("Each(%q) %q, want %q", c.s, got, c.want)
		}
	}
	for _, s := range texts() {
		want, _ := plain(s)
		if got := gone(t, s); !slices.Equal(got, want) {
			t.Errorf("Each(%q) %q, want %q", s, got, want)
		}
	}
}

// P7.1: a going over is left early at every line, and gone over again from the first line on.
func TestEachLeftAndAgain(t *testing.T) {
	for _, s := range texts() {
		want, _ := plain(s)
		each := Each(s)
		for leave := 1; leave <= len(want); leave++ {
			told := 0
			for n, line := range each {
				told++
				if n != told || line != want[n-1] {
					t.Fatalf("%q, left at %d: line %d %q, want line %d %q", s, leave, n, line, told, want[told-1])
				}
				if n == leave {
					break
				}
			}
			if told != leave {
				t.Fatalf("%q, left at %d: told %d lines", s, leave, told)
			}
		}
		for range 2 {
			told := 0
			for n, line := range each {
				told++
				if n != told || line != want[n-1] {
					t.Fatalf("%q, again: line %d %q, want line %d", s, n, line, told)
				}
			}
			if told != len(want) {
				t.Fatalf("%q, again: told %d lines, want %d", s, told, len(want))
			}
		}
	}
}

// P7.1: one function is gone over while it is being gone over.
func TestEachWithinItself(t *testing.T) {
	each := Each("a\n\nbc\n")
	want := []string{"a", "", "bc", ""}
	outer := 0
	for i, a := range each {
		outer++
		inner := 0
		for j, b := range each {
			inner++
			if j != inner || b != want[j-1] {
				t.Fatalf("within line %d: line %d %q", i, j, b)
			}
		}
		if i != outer || a != want[i-1] || inner != len(want) {
			t.Fatalf("line %d %q, and %d within", i, a, inner)
		}
	}
	if outer != len(want) {
		t.Errorf("%d lines, want %d", outer, len(want))
	}
}

// P7.2
func TestOf(t *testing.T) {
	for _, c := range []struct {
		s         string
		at        int
		line, col int
	}{
		{"", 0, 1, 1}, {"", 1, 1, 1}, {"", -1, 1, 1}, {"", most, 1, 1}, {"", least, 1, 1},
		{"a\nbc", 0, 1, 1}, {"a\nbc", 1, 1, 2}, {"a\nbc", 2, 2, 1}, {"a\nbc", 3, 2, 2}, {"a\nbc", 4, 2, 3},
		{"a\nbc", 5, 2, 3}, {"a\nbc", -1, 1, 1}, {"a\nbc", -3, 1, 1}, {"a\nbc", most, 2, 3}, {"a\nbc", least, 1, 1},
		{"a\n", 1, 1, 2}, {"a\n", 2, 2, 1}, {"a\n", 3, 2, 1},
		{"\n\n", 0, 1, 1}, {"\n\n", 1, 2, 1}, {"\n\n", 2, 3, 1}, {"\n\n", 3, 3, 1}, {"\n\n", -1, 1, 1},
		{"\u20acb\n", 3, 1, 4}, {"\u20acb\n", 1, 1, 2}, {"\tb", 1, 1, 2}, {"a\r\nb", 1, 1, 2}, {"a\r\nb", 2, 1, 3},
	} {
		if line, col := Of(c.s, c.at); line != c.line || col != c.col {
			t.Errorf("Of(%q, %d) %d %d, want %d %d", c.s, c.at, line, col, c.line, c.col)
		}
	}
	for _, s := range texts() {
		_, places := plain(s)
		for at, want := range places {
			if line, col := Of(s, at); line != want.line || col != want.col {
				t.Errorf("Of(%q, %d) %d %d, want %v", s, at, line, col, want)
			}
		}
		for _, at := range []int{least, least + 1, -len(s) - 1, -2, -1} {
			if line, col := Of(s, at); line != 1 || col != 1 {
				t.Errorf("Of(%q, %d) %d %d, want 1 1", s, at, line, col)
			}
		}
		want := places[len(s)]
		for _, at := range []int{len(s) + 1, len(s) + 2, 2*len(s) + 1, most - 1, most} {
			if line, col := Of(s, at); line != want.line || col != want.col {
				t.Errorf("Of(%q, %d) %d %d, want %v", s, at, line, col, want)
			}
		}
	}
}

// P7.2
func TestAt(t *testing.T) {
	for _, c := range []struct {
		s         string
		line, col int
		at        int
		ok        bool
	}{
		{"", 1, 1, 0, true}, {"", 1, 2, 0, false}, {"", 1, 0, 0, false}, {"", 0, 1, 0, false}, {"", 2, 1, 0, false},
		{"a\nbc", 1, 0, 0, false}, {"a\nbc", 1, 1, 0, true}, {"a\nbc", 1, 2, 1, true}, {"a\nbc", 1, 3, 0, false},
		{"a\nbc", 2, 0, 0, false}, {"a\nbc", 2, 1, 2, true}, {"a\nbc", 2, 2, 3, true}, {"a\nbc", 2, 3, 4, true},
		{"a\nbc", 2, 4, 0, false}, {"a\nbc", 2, 5, 0, false}, {"a\nbc", 3, 1, 0, false}, {"a\nbc", 0, 1, 0, false},
		{"a\nbc", -1, 1, 0, false}, {"a\nbc", 2, -1, 0, false}, {"a\nbc", 2, least, 0, false}, {"a\nbc", 2, most, 0, false},
		{"a\nbc", least, 1, 0, false}, {"a\nbc", most, 1, 0, false}, {"a\nbc", most, most, 0, false}, {"a\nbc", least, least, 0, false},
		{"a\n", 2, 1, 2, true}, {"a\n", 2, 2, 0, false}, {"a\n", 3, 1, 0, false},
		{"\n\n", 1, 1, 0, true}, {"\n\n", 2, 1, 1, true}, {"\n\n", 3, 1, 2, true}, {"\n\n", 1, 2, 0, false}, {"\n\n", 3, 2, 0, false},
		{"\u20ac\nb", 1, 4, 3, true}, {"\u20ac\nb", 1, 5, 0, false}, {"\u20ac\nb", 2, 1, 4, true},
	} {
		if at, ok := At(c.s, c.line, c.col); at != c.at || ok != c.ok {
			t.Errorf("At(%q, %d, %d) %d %t, want %d %t", c.s, c.line, c.col, at, ok, c.at, c.ok)
		}
	}
	for _, s := range texts() {
		lines, _ := plain(s)
		start := 0
		for i, line := range lines {
			for col := 1; col <= len(line)+1; col++ {
				if at, ok := At(s, i+1, col); at != start+col-1 || !ok {
					t.Errorf("At(%q, %d, %d) %d %t, want %d", s, i+1, col, at, ok, start+col-1)
				}
			}
			for _, col := range []int{least, -1, 0, len(line) + 2, len(line) + 3, most} {
				if at, ok := At(s, i+1, col); at != 0 || ok {
					t.Errorf("At(%q, %d, %d) %d %t, want nothing", s, i+1, col, at, ok)
				}
			}
			start += len(line) + 1
		}
		for _, n := range []int{least, -len(lines), -1, 0, len(lines) + 1, len(lines) + 2, most} {
			for _, col := range []int{least, -1, 0, 1, 2, most} {
				if at, ok := At(s, n, col); at != 0 || ok {
					t.Errorf("At(%q, %d, %d) %d %t, want nothing", s, n, col, at, ok)
				}
			}
		}
	}
}

// P7.3: every place of a text, and its end, there and back; no two of them have one line and column.
func TestThereAndBack(t *testing.T) {
	for _, s := range texts() {
		seen := map[place]int{}
		for at := 0; at <= len(s); at++ {
			line, col := Of(s, at)
			if back, ok := At(s, line, col); back != at || !ok {
				t.Errorf("%q: place %d is line %d, column %d, which lead to %d %t", s, at, line, col, back, ok)
			}
			if first, there := seen[place{line, col}]; there {
				t.Errorf("%q: line %d, column %d are told of %d and of %d", s, line, col, first, at)
			}
			seen[place{line, col}] = at
		}
	}
}

// P7.3: and of places that are not in the text, to the one as which they count.
func TestThereAndBackOutside(t *testing.T) {
	for _, s := range texts() {
		for _, c := range []struct{ at, want int }{
			{least, 0}, {-1, 0}, {len(s) + 1, len(s)}, {most, len(s)},
		} {
			line, col := Of(s, c.at)
			if back, ok := At(s, line, col); back != c.want || !ok {
				t.Errorf("%q: place %d is line %d, column %d, which lead to %d %t, want %d", s, c.at, line, col, back, ok, c.want)
			}
		}
	}
}

// P7.3: from each line and column that there are to their place, and back.
func TestBackAndThere(t *testing.T) {
	for _, s := range texts() {
		places := 0
		for n, line := range Each(s) {
			for col := 1; col <= len(line)+1; col++ {
				places++
				at, ok := At(s, n, col)
				if l, c := Of(s, at); l != n || c != col || !ok {
					t.Errorf("%q: line %d, column %d are at %d %t, of which are told %d %d", s, n, col, at, ok, l, c)
				}
			}
		}
		if places != len(s)+1 {
			t.Errorf("%q: %d lines and columns, want %d", s, places, len(s)+1)
		}
	}
}

// P7.1, P7.2, P7.3: a long text, whose lines are many and long.
func TestLongText(t *testing.T) {
	next := acts(3)
	var b strings.Builder
	for range 2000 {
		b.WriteString(strings.Repeat("x", next(40)))
		b.WriteByte(10)
	}
	s := b.String() + strings.Repeat("y", 1<<16)
	if got := Lines(s); got != 2001 {
		t.Fatalf("%d lines, want 2001", got)
	}
	if line, ok := Line(s, 2001); len(line) != 1<<16 || !ok {
		t.Errorf("the last line has %d bytes, %t", len(line), ok)
	}
	line, col := Of(s, len(s))
	if line != 2001 || col != 1<<16+1 {
		t.Errorf("the end is in line %d, column %d", line, col)
	}
	for range 500 {
		at := next(len(s) + 1)
		line, col := Of(s, at)
		if back, ok := At(s, line, col); back != at || !ok {
			t.Errorf("place %d leads to line %d, column %d, and back to %d %t", at, line, col, back, ok)
		}
	}
}

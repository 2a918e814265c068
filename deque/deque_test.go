package deque

import (
	"slices"
	"strconv"
	"testing"
)

// acts tells numbers that follow from seed alone, each below the bound it is asked for.
func acts(seed uint32) func(bound int) int {
	return func(bound int) int {
		seed = seed*1664525 + 1013904223
		return int(seed>>8) % bound
	}
}

// same holds d against the plain row want: its length, each place and those around it, and the going over.
func same[T comparable](t *testing.T, told string, d *Deque[T], want []T) {
	t.Helper()
	if d.Len() != len(want) {
		t.Fatalf("%s: Len %d, want %d", told, d.Len(), len(want))
	}
	for i, w := range want {
		if x, ok := d.At(i); x != w || !ok {
			t.Fatalf("%s: At(%d) %v %t, want %v", told, i, x, ok, w)
		}
	}
	var none T
	for _, i := range []int{-1 << 63, -len(want) - 1, -2, -1, len(want), len(want) + 1, len(want) + 4, 2 * len(want), 1<<63 - 1} {
		if 0 <= i && i < len(want) {
			continue
		}
		if x, ok := d.At(i); x != none || ok {
			t.Fatalf("%s: At(%d) %v %t of %d, want nothing", told, i, x, ok, len(want))
		}
	}
	if got := slices.Collect(d.All()); !slices.Equal(got, want) {
		t.Fatalf("%s: All %v, want %v", told, got, want)
	}
}

// wantPop takes one away at the front and holds it against want.
func wantPop[T comparable](t *testing.T, d *Deque[T], want T) {
	t.Helper()
	if x, ok := d.Pop(); x != want || !ok {
		t.Fatalf("Pop %v %t, want %v", x, ok, want)
	}
}

// wantDrop takes one away at the end and holds it against want.
func wantDrop[T comparable](t *testing.T, d *Deque[T], want T) {
	t.Helper()
	if x, ok := d.Drop(); x != want || !ok {
		t.Fatalf("Drop %v %t, want %v", x, ok, want)
	}
}

// wantEmpty holds that there is nothing in d, and nothing to take away.
func wantEmpty[T comparable](t *testing.T, told string, d *Deque[T]) {
	t.Helper()
	var none T
	for range 2 {
		if x, ok := d.Pop(); x != none || ok {
			t.Fatalf("%s: Pop %v %t, want nothing", told, x, ok)
		}
		if x, ok := d.Drop(); x != none || ok {
			t.Fatalf("%s: Drop %v %t, want nothing", told, x, ok)
		}
		same(t, told, d, nil)
	}
}

// P5.1, P5.2
func TestExample(t *testing.T) {
	var d Deque[int]
	d.Push(1)
	d.Push(2)
	d.Shove(0)
	same(t, "the example", &d, []int{0, 1, 2})
	wantPop(t, &d, 0)
	wantDrop(t, &d, 2)
	same(t, "the example's rest", &d, []int{1})
}

// P5.1, P5.2
func TestEmpty(t *testing.T) {
	wantEmpty(t, "zero ints", new(Deque[int]))
	wantEmpty(t, "zero texts", new(Deque[string]))
	wantEmpty(t, "zero bytes", new(Deque[byte]))
	wantEmpty(t, "zero nothings", new(Deque[struct{}]))
	wantEmpty(t, "zero pointers", new(Deque[*int]))
}

// P5.1, P5.2
func TestNil(t *testing.T) {
	var d *Deque[string]
	d.Push("a")
	d.Shove("b")
	wantEmpty(t, "nil", d)
	if d.All() == nil {
		t.Fatal("All of nil is no function")
	}
	d.All()(func(string) bool {
		t.Fatal("All of nil tells something")
		return true
	})
}

// P5.1: each way to lay the one thing and to take it away again, many times over.
func TestLastOneGoes(t *testing.T) {
	var d Deque[int]
	for i := 1; i < 100; i++ {
		if i%2 == 0 {
			d.Push(i)
		} else {
			d.Shove(i)
		}
		same(t, "one", &d, []int{i})
		if i%3 == 0 {
			wantPop(t, &d, i)
		} else {
			wantDrop(t, &d, i)
		}
		wantEmpty(t, "none left", &d)
	}
}

// P5.1: zero values are things like any other.
func TestZeroThings(t *testing.T) {
	var d Deque[int]
	d.Push(0)
	d.Shove(0)
	same(t, "noughts", &d, []int{0, 0})
	wantPop(t, &d, 0)
	wantDrop(t, &d, 0)
	wantEmpty(t, "noughts gone", &d)

	var texts Deque[string]
	texts.Push("")
	same(t, "empty text", &texts, []string{""})
	wantDrop(t, &texts, "")
	wantEmpty(t, "empty text gone", &texts)
}

// P5.3: at all lengths round those at which the row grows and shrinks.
func TestOrder(t *testing.T) {
	for n := range 70 {
		var pushed, dropped, shoved, turned Deque[int]
		for i := range n {
			pushed.Push(i)
			dropped.Push(i)
			shoved.Shove(i)
			turned.Shove(i)
		}
		for i := range n {
			wantPop(t, &pushed, i)
			wantDrop(t, &shoved, i)
			wantDrop(t, &dropped, n-1-i)
			wantPop(t, &turned, n-1-i)
		}
		wantEmpty(t, "pushed and popped", &pushed)
		wantEmpty(t, "pushed and dropped", &dropped)
		wantEmpty(t, "shoved and dropped", &shoved)
		wantEmpty(t, "shoved and popped", &turned)
	}
}

// act does one act, told by a number, on d and on the plain row, and answers the row.
func act[T comparable](t *testing.T, d *Deque[T], row []T, which int, x T) []T {
	t.Helper()
	switch {
	case which == 0:
		d.Push(x)
		return append(row, x)
	case which == 1:
		d.Shove(x)
		return slices.Insert(row, 0, x)
	case len(row) == 0:
		wantEmpty(t, "empty on the way", d)
		return row
	case which == 2:
		wantPop(t, d, row[0])
		return row[1:]
	}
	wantDrop(t, d, row[len(row)-1])
	return row[:len(row)-1]
}

// growAndShrink does acts on a row; it grows for a while, then it shrinks, again and again.
func growAndShrink[T comparable](t *testing.T, seed uint32, thing func(int) T) {
	t.Helper()
	next := acts(seed)
	var d Deque[T]
	var row []T
	for i := range 3000 {
		which := next(4)
		// Four acts in five go the way of the while that it is.
		if next(5) > 0 {
			which = which%2 + i/150%2*2
		}
		row = act(t, &d, row, which, thing(next(1000)))
		if next(20) == 0 {
			same(t, "act "+strconv.Itoa(i), &d, row)
		}
	}
	for len(row) > 0 {
		row = act(t, &d, row, 2+next(2), thing(0))
		same(t, "the end", &d, row)
	}
	wantEmpty(t, "all gone", &d)
}

type pair struct {
	name string
	n    int
}

// P5.1, P5.2, P5.3
func TestGrowAndShrink(t *testing.T) {
	for seed := range uint32(8) {
		growAndShrink(t, seed, func(n int) int { return n - 500 })
		growAndShrink(t, seed, func(n int) string { return strconv.Itoa(n) })
		growAndShrink(t, seed, func(n int) byte { return byte(n) })
		growAndShrink(t, seed, func(n int) pair { return pair{strconv.Itoa(n), n} })
		growAndShrink(t, seed, func(n int) [2]bool { return [2]bool{n%2 == 0, n%3 == 0} })
		growAndShrink(t, seed, func(n int) *int { return &n })
		growAndShrink(t, seed, func(n int) any { return []any{n, strconv.Itoa(n), nil}[n%3] })
		growAndShrink(t, seed, func(n int) struct{} { return struct{}{} })
	}
}

// P5.1, P5.3: a queue that stays at one length goes round many times, both ways.
func TestRound(t *testing.T) {
	for n := 1; n < 20; n++ {
		var d Deque[int]
		for i := range n {
			d.Push(i)
		}
		for i := range 100 {
			d.Push(n + i)
			wantPop(t, &d, i)
		}
		for i := range 200 {
			d.Shove(99 - i)
			wantDrop(t, &d, n+99-i)
		}
		want := make([]int, n)
		for i := range want {
			want[i] = i - 100
		}
		same(t, "round", &d, want)
	}
}

// P5.1: a long row at both ends.
func TestLong(t *testing.T) {
	const n = 100000
	var d Deque[int]
	for i := range n {
		d.Push(i)
		d.Shove(-1 - i)
	}
	if d.Len() != 2*n {
		t.Fatalf("Len %d", d.Len())
	}
	for i := range 2 * n {
		if x, ok := d.At(i); x != i-n || !ok {
			t.Fatalf("At(%d) %d %t", i, x, ok)
		}
	}
	for i := range n {
		wantPop(t, &d, i-n)
		wantDrop(t, &d, n-1-i)
	}
	wantEmpty(t, "long", &d)
}

// wrapped answers the row 0 to n-1, which has gone round before.
func wrapped(n int) *Deque[int] {
	var d Deque[int]
	for i := range n {
		d.Push(i)
	}
	for i := range n / 2 {
		d.Drop()
		d.Shove(-1 - i)
	}
	for range n / 2 {
		d.Pop()
	}
	for i := n - n/2; i < n; i++ {
		d.Push(i)
	}
	return &d
}

// upTo answers the plain row 0 to n-1.
func upTo(n int) []int {
	row := make([]int, n)
	for i := range row {
		row[i] = i
	}
	return row
}

// P5.2: a going over that is left early, at each place.
func TestLeftEarly(t *testing.T) {
	for n := range 20 {
		d := wrapped(n)
		all := d.All()
		for stop := 1; stop <= n; stop++ {
			var got []int
			all(func(x int) bool {
				got = append(got, x)
				return len(got) < stop
			})
			if !slices.Equal(got, upTo(stop)) {
				t.Fatalf("left after %d of %d: %v", stop, n, got)
			}
		}
		same(t, "left early", d, upTo(n))
	}
}

// P5.2: one that is gone over again tells what there is by then.
func TestAgain(t *testing.T) {
	var d Deque[int]
	all := d.All()
	var row []int
	next := acts(5)
	for range 300 {
		row = act(t, &d, row, next(4), next(100))
		for range 2 {
			if got := slices.Collect(all); !slices.Equal(got, row) {
				t.Fatalf("again: %v, want %v", got, row)
			}
		}
	}
	for d.Len() > 0 {
		d.Pop()
	}
	if got := slices.Collect(all); len(got) != 0 {
		t.Fatalf("again, empty: %v", got)
	}
}

// P5.2: two goings over, one within the other.
func TestWithin(t *testing.T) {
	d := wrapped(7)
	var got []int
	all := d.All()
	for x := range all {
		for y := range all {
			got = append(got, 10*x+y)
			if y == x {
				break
			}
		}
	}
	var want []int
	for x := range 7 {
		for y := range x + 1 {
			want = append(want, 10*x+y)
		}
	}
	if !slices.Equal(got, want) {
		t.Fatalf("within: %v, want %v", got, want)
	}
}

// P5.2: a row that is changed while it is gone over: the going tells what there was when it began.
func TestChangedMeanwhile(t *testing.T) {
	changes := []struct {
		name string
		do   func(d *Deque[int])
	}{
		{"Push", func(d *Deque[int]) { d.Push(70) }},
		{"Shove", func(d *Deque[int]) { d.Shove(80) }},
		{"Pop", func(d *Deque[int]) { d.Pop() }},
		{"Drop", func(d *Deque[int]) { d.Drop() }},
		{"Pop and Push", func(d *Deque[int]) { d.Pop(); d.Push(90) }},
		{"Drop and Shove", func(d *Deque[int]) { d.Drop(); d.Shove(90) }},
		{"Drop and Push", func(d *Deque[int]) { d.Drop(); d.Push(90) }},
		{"all anew", func(d *Deque[int]) {
			for d.Len() > 0 {
				d.Drop()
			}
			for range 9 {
				d.Push(90)
			}
		}},
	}
	for _, c := range changes {
		for n := range 20 {
			d := wrapped(n)
			var got []int
			for x := range d.All() {
				got = append(got, x)
				c.do(d)
			}
			if !slices.Equal(got, upTo(n)) {
				t.Fatalf("%s meanwhile, %d: %v", c.name, n, got)
			}
		}
	}
}

// P5.2: what is changed between the call of All and the going counts.
func TestBegins(t *testing.T) {
	d := wrapped(3)
	all := d.All()
	d.Push(3)
	d.Shove(-1)
	if got := slices.Collect(all); !slices.Equal(got, []int{-1, 0, 1, 2, 3}) {
		t.Fatalf("begun later: %v", got)
	}
}

// P5.1: two rows have nothing of each other.
func TestApart(t *testing.T) {
	var a, b Deque[string]
	a.Push("a")
	b.Shove("b")
	a.Push("c")
	wantDrop(t, &b, "b")
	wantEmpty(t, "b", &b)
	same(t, "a", &a, []string{"a", "c"})
}

// P5.1: a list that is a thing of the row stays the one that was handed in.
func TestLists(t *testing.T) {
	var d Deque[[]int]
	list := []int{1, 2}
	d.Push(list)
	d.Shove(nil)
	if x, ok := d.Pop(); x != nil || !ok {
		t.Fatalf("Pop %v %t, want a nil list", x, ok)
	}
	if x, ok := d.At(0); !ok || len(x) != 2 || &x[0] != &list[0] {
		t.Fatalf("At %v %t, want the list itself", x, ok)
	}
}

// P5.1: what has gone isn't kept, nor is the room for it.
func TestNothingKept(t *testing.T) {
	next := acts(8)
	var d Deque[int]
	for i := range 2000 {
		if which := next(4); i/200%2 == 0 && which < 3 || which < 1 {
			d.Push(1 + next(9))
		} else if which%2 == 0 {
			d.Pop()
		} else {
			d.Drop()
		}
		held := 0
		for _, x := range d.ring {
			if x != 0 {
				held++
			}
		}
		if held != d.Len() {
			t.Fatalf("act %d: %d held of %d", i, held, d.Len())
		}
		if len(d.ring) > least && len(d.ring) > 4*d.Len() {
			t.Fatalf("act %d: room for %d, and %d there", i, len(d.ring), d.Len())
		}
	}
}

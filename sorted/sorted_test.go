package sorted

import (
	"cmp"
	"maps"
	"slices"
	"strconv"
	"testing"
)

// acts tells numbers that follow from seed alone, each below the bound it is asked for.
func acts(seed uint32) func(bound int) int {
	return func(bound int) int {
		seed = seed*1664525 + 1013904223
		return int(seed>>8) % bound
	}
}

// shuffled answers the numbers 0 to n-1 in an order that follows from seed.
func shuffled(n int, seed uint32) []int {
	next := acts(seed)
	row := upTo(n)
	for i := range row {
		j := next(i + 1)
		row[i], row[j] = row[j], row[i]
	}
	return row
}

// upTo answers the plain row 0 to n-1.
func upTo(n int) []int {
	row := make([]int, n)
	for i := range row {
		row[i] = i
	}
	return row
}

// collect goes over s; it holds the places against 0, 1, 2 and so on.
func collect[T cmp.Ordered](t *testing.T, told string, s *Set[T]) []T {
	t.Helper()
	var got []T
	for i, x := range s.All() {
		if i != len(got) {
			t.Fatalf("%s: All tells the place %d, want %d", told, i, len(got))
		}
		got = append(got, x)
	}
	return got
}

// same holds s against the plain row want, which rises: its length, the going over, each place and those around it.
func same[T cmp.Ordered](t *testing.T, told string, s *Set[T], want []T) {
	t.Helper()
	if s.Len() != len(want) {
		t.Fatalf("%s: Len %d, want %d", told, s.Len(), len(want))
	}
	if got := collect(t, told, s); !slices.Equal(got, want) {
		t.Fatalf("%s: All %#v, want %#v", told, got, want)
	}
	for i, w := range want {
		if x, ok := s.At(i); x != w || !ok {
			t.Fatalf("%s: At(%d) %#v %t, want %#v", told, i, x, ok, w)
		}
		if !s.Has(w) {
			t.Fatalf("%s: Has(%#v) false", told, w)
		}
		if got := s.From(w); got != i {
			t.Fatalf("%s: From(%#v) %d, want %d", told, w, got, i)
		}
	}
	var none T
	for _, i := range []int{-1 << 63, -len(want) - 1, -2, -1, len(want), len(want) + 1, 2*len(want) + 1, 1<<63 - 1} {
		if x, ok := s.At(i); x != none || ok {
			t.Fatalf("%s: At(%d) %#v %t of %d, want nothing", told, i, x, ok, len(want))
		}
	}
}

// asked holds Has and From of x against the plain row that rises.
func asked[T cmp.Ordered](t *testing.T, told string, s *Set[T], row []T, x T) {
	t.Helper()
	if got, want := s.Has(x), slices.Contains(row, x); got != want {
		t.Fatalf("%s: Has(%#v) %t in %#v", told, x, got, row)
	}
	want := 0
	for _, y := range row {
		if y < x {
			want++
		}
	}
	if got := s.From(x); got != want {
		t.Fatalf("%s: From(%#v) %d, want %d in %#v", told, x, got, want, row)
	}
}

// sound holds that the tree rises, counts rightly and is balanced.
func sound[T cmp.Ordered](t *testing.T, n *node[T]) {
	t.Helper()
	if n == nil {
		return
	}
	sound(t, n.left)
	sound(t, n.right)
	left, right := n.left.size(), n.right.size()
	if n.count != left+1+right {
		t.Fatalf("a node counts %d, and has %d and %d beside its own", n.count, left, right)
	}
	if left+1 > 3*(right+1) || right+1 > 3*(left+1) {
		t.Fatalf("a node has %d on its left and %d on its right", left, right)
	}
	if n.left != nil && n.left.thing >= n.thing || n.right != nil && n.right.thing <= n.thing {
		t.Fatalf("a node of %#v stands wrongly", n.thing)
	}
}

// P6.1, P6.2
func TestExample(t *testing.T) {
	s := Of(3, 1, 3)
	same(t, "the example", s, []int{1, 3})
	if s.From(2) != 1 {
		t.Fatalf("From(2) %d", s.From(2))
	}
	if !s.Del(3) {
		t.Fatal("Del(3) false")
	}
	same(t, "the example's rest", s, []int{1})
}

// P6.1: of none, of one, of the same over and over.
func TestOf(t *testing.T) {
	none := Of[int]()
	if none == nil {
		t.Fatal("Of nothing is nil")
	}
	same(t, "of none", none, nil)
	if !none.Add(7) {
		t.Fatal("Add to Of nothing")
	}
	same(t, "of none, one added", none, []int{7})
	same(t, "of a nil list", Of([]string(nil)...), nil)
	same(t, "of one", Of("x"), []string{"x"})
	same(t, "of one thrice", Of("x", "x", "x"), []string{"x"})
	same(t, "of zeros", Of(0, 0), []int{0})
	same(t, "of the empty text", Of("", "a", ""), []string{"", "a"})
	same(t, "of falling ones", Of(5, 4, 3, 2, 1), []int{1, 2, 3, 4, 5})
}

// emptyActs holds that there is nothing in s, and that nothing can be taken from it.
func emptyActs[T cmp.Ordered](t *testing.T, told string, s *Set[T], xs ...T) {
	t.Helper()
	same(t, told, s, nil)
	if s.All() == nil {
		t.Fatalf("%s: All is no function", told)
	}
	for _, x := range xs {
		if s.Has(x) || s.Del(x) || s.From(x) != 0 {
			t.Fatalf("%s: %#v: Has, Del or From", told, x)
		}
	}
	same(t, told, s, nil)
}

// P6.1, P6.2
func TestEmpty(t *testing.T) {
	emptyActs(t, "zero ints", new(Set[int]), -1<<63, -1, 0, 1, 1<<63-1)
	emptyActs(t, "zero texts", new(Set[string]), "", "a", "\x00", "\xff")
	emptyActs(t, "zero bytes", new(Set[byte]), 0, 1, 255)
	var s Set[string]
	if !s.Add("") || s.Add("") {
		t.Fatal("Add to the zero Set")
	}
	same(t, "the zero Set, one added", &s, []string{""})
}

// P6.1, P6.2
func TestNil(t *testing.T) {
	var s *Set[string]
	emptyActs(t, "nil", s, "", "a")
	for _, x := range []string{"", "a"} {
		if s.Add(x) {
			t.Fatal("Add to nil")
		}
	}
	emptyActs(t, "nil, added to", s, "", "a")
	var ints *Set[int]
	if ints.Add(0) || ints.Add(1) {
		t.Fatal("Add of a number to nil")
	}
	emptyActs(t, "nil numbers", ints, 0, 1)
}

// P6.1: what is there already, and what is not there.
func TestThereOrNot(t *testing.T) {
	s := Of(10, 20, 30)
	for _, x := range []int{10, 20, 30} {
		if s.Add(x) {
			t.Fatalf("Add(%d) of what is there", x)
		}
		same(t, "added again", s, []int{10, 20, 30})
	}
	for _, x := range []int{-1 << 63, 9, 11, 19, 21, 29, 31, 1<<63 - 1} {
		if s.Has(x) || s.Del(x) {
			t.Fatalf("Has or Del(%d) of what is not there", x)
		}
		same(t, "taken what is not there", s, []int{10, 20, 30})
		if !s.Add(x) || s.Add(x) || !s.Has(x) || !s.Del(x) || s.Del(x) || s.Has(x) {
			t.Fatalf("%d there and back", x)
		}
		same(t, "there and back", s, []int{10, 20, 30})
	}
}

// P6.1: the one thing comes and goes, many times over.
func TestLastOneGoes(t *testing.T) {
	var s Set[int]
	for i := range 100 {
		x := i%7 - 3
		if !s.Add(x) || s.Add(x) {
			t.Fatalf("Add(%d)", x)
		}
		same(t, "one", &s, []int{x})
		if s.Del(x+1) || !s.Del(x) || s.Del(x) {
			t.Fatalf("Del(%d)", x)
		}
		emptyActs(t, "none left", &s, x-1, x, x+1)
	}
}

// P6.2: From of what is there, of what is not, below all and above all.
func TestFrom(t *testing.T) {
	for n := range 40 {
		s := new(Set[int])
		for _, i := range shuffled(n, uint32(n)) {
			s.Add(10 * i)
		}
		for x := -15; x < 10*n+15; x++ {
			want := max(0, (x+9)/10)
			if x <= 0 {
				want = 0
			}
			if got := s.From(x); got != min(want, n) {
				t.Fatalf("From(%d) %d of %d tens", x, got, n)
			}
		}
		if s.From(-1<<63) != 0 || s.From(1<<63-1) != n {
			t.Fatalf("From of the least or the greatest, of %d tens", n)
		}
	}
}

// P6.2: texts stand byte by byte, whole numbers by their size.
func TestOrder(t *testing.T) {
	same(t, "texts", Of("b", "", "ab", "a\x00", "a", "B", "\xff", "é", "aa", "10", "9"),
		[]string{"", "10", "9", "B", "a", "a\x00", "aa", "ab", "b", "é", "\xff"})
	same(t, "ints", Of(0, 1<<63-1, -1, 1, -1<<63), []int{-1 << 63, -1, 0, 1, 1<<63 - 1})
	same(t, "great numbers", Of[uint64](1<<63, 0, 1<<64-1, 1<<63-1), []uint64{0, 1<<63 - 1, 1 << 63, 1<<64 - 1})
	same(t, "small numbers", Of[int8](127, -128, 0, -1), []int8{-128, -1, 0, 127})
	same(t, "runes", Of('z', 'a', 'é'), []rune{'a', 'z', 'é'})
	same(t, "own names", Of[name]("y", "x"), []name{"x", "y"})
}

type name string

// eachOrder hands to do each order of the things of row.
func eachOrder(row []int, at int, do func([]int)) {
	if at == len(row) {
		do(row)
		return
	}
	for i := at; i < len(row); i++ {
		row[at], row[i] = row[i], row[at]
		eachOrder(row, at+1, do)
		row[at], row[i] = row[i], row[at]
	}
}

// P6.3: each order of up to six things, added one by one, at once, and twice.
func TestEachOrder(t *testing.T) {
	for n := range 7 {
		want := upTo(n)
		eachOrder(upTo(n), 0, func(order []int) {
			var s Set[int]
			for _, x := range order {
				if !s.Add(x) {
					t.Fatalf("Add(%d) false in the order %#v", x, order)
				}
			}
			same(t, "one by one", &s, want)
			same(t, "at once", Of(order...), want)
			same(t, "twice", Of(append(slices.Clone(order), order...)...), want)
			sound(t, s.root)
		})
	}
}

// P6.1, P6.3: taken away in each order, too.
func TestEachOrderAway(t *testing.T) {
	const n = 6
	for seed := range uint32(3) {
		eachOrder(upTo(n), 0, func(order []int) {
			s := Of(shuffled(n, seed)...)
			left := upTo(n)
			for _, x := range order {
				if !s.Del(x) {
					t.Fatalf("Del(%d) false in the order %#v", x, order)
				}
				left = slices.Delete(left, slices.Index(left, x), slices.Index(left, x)+1)
				same(t, "taken away", s, left)
				sound(t, s.root)
			}
		})
	}
}

// P6.3: many things in many orders.
func TestManyOrders(t *testing.T) {
	for _, n := range []int{7, 31, 32, 33, 100, 1000} {
		want := upTo(n)
		backward := upTo(n)
		slices.Reverse(backward)
		same(t, "forward", Of(want...), want)
		same(t, "backward", Of(backward...), want)
		for seed := range uint32(8) {
			s := Of(shuffled(n, seed)...)
			for _, x := range shuffled(n, seed+100) {
				if s.Add(x) {
					t.Fatalf("Add(%d) again", x)
				}
			}
			same(t, "shuffled", s, want)
			sound(t, s.root)
		}
	}
}

// model is a plain set beside the one that is tried.
type model[T cmp.Ordered] map[T]bool

// row answers the things of m in their order.
func (m model[T]) row() []T {
	return slices.Sorted(maps.Keys(m))
}

// act adds x, or takes it away, on s and on m, and holds the answers against each other.
func (m model[T]) act(t *testing.T, s *Set[T], add bool, x T) {
	t.Helper()
	there := m[x]
	if add {
		m[x] = true
		if s.Add(x) == there {
			t.Fatalf("Add(%#v) %t, and it was there: %t", x, !there, there)
		}
	} else {
		delete(m, x)
		if s.Del(x) != there {
			t.Fatalf("Del(%#v) %t, and it was there: %t", x, !there, there)
		}
	}
	if s.Has(x) != add {
		t.Fatalf("Has(%#v) %t", x, !add)
	}
}

// growAndShrink does acts on a set; it grows for a while, then it shrinks, again and again.
func growAndShrink[T cmp.Ordered](t *testing.T, seed uint32, bound int, thing func(int) T) {
	t.Helper()
	next := acts(seed)
	var s Set[T]
	m := model[T]{}
	for i := range 2000 {
		// Four acts in five go the way of the while that it is.
		add := i/200%2 == 0
		if next(5) == 0 {
			add = !add
		}
		m.act(t, &s, add, thing(next(bound)))
		if next(20) == 0 {
			row := m.row()
			told := "act " + strconv.Itoa(i)
			same(t, told, &s, row)
			asked(t, told, &s, row, thing(next(bound)))
			sound(t, s.root)
		}
	}
	for row := m.row(); len(row) > 0; row = m.row() {
		m.act(t, &s, false, row[next(len(row))])
		sound(t, s.root)
	}
	same(t, "all gone", &s, nil)
}

// P6.1, P6.2, P6.3
func TestGrowAndShrink(t *testing.T) {
	for seed := range uint32(6) {
		for _, bound := range []int{3, 30, 300} {
			growAndShrink(t, seed, bound, func(n int) int { return n - 100 })
			growAndShrink(t, seed, bound, func(n int) string { return strconv.Itoa(n) })
			growAndShrink(t, seed, bound, func(n int) byte { return byte(n) })
			growAndShrink(t, seed, bound, func(n int) int8 { return int8(n) })
			growAndShrink(t, seed, bound, func(n int) uint64 { return uint64(n) << 55 })
			growAndShrink(t, seed, bound, func(n int) name { return name(strconv.Itoa(n % 17)) })
			growAndShrink(t, seed, bound, func(n int) string { return string([]byte{byte(n), byte(n % 3)})[:n%3] })
		}
	}
}

// P6.1, P6.2: rows that only rise, or only fall, as they come and as they go; a queue that wanders on.
func TestOneWay(t *testing.T) {
	const n = 400
	for _, c := range []struct {
		name     string
		add, del func(i int) int
	}{
		{"rising, first one goes", func(i int) int { return i }, func(i int) int { return i }},
		{"rising, last one goes", func(i int) int { return i }, func(i int) int { return n - 1 - i }},
		{"falling, first one goes", func(i int) int { return n - 1 - i }, func(i int) int { return i }},
		{"falling, last one goes", func(i int) int { return n - 1 - i }, func(i int) int { return n - 1 - i }},
	} {
		var s Set[int]
		m := model[int]{}
		for i := range n {
			m.act(t, &s, true, c.add(i))
			sound(t, s.root)
		}
		same(t, c.name, &s, upTo(n))
		for i := range n {
			m.act(t, &s, false, c.del(i))
			sound(t, s.root)
			if i%50 == 0 {
				same(t, c.name, &s, m.row())
			}
		}
		same(t, c.name, &s, nil)
	}
	var queue Set[int]
	for i := range 2000 {
		queue.Add(i)
		queue.Del(i - 20)
		sound(t, queue.root)
		if first, _ := queue.At(0); first != max(0, i-19) {
			t.Fatalf("a queue at %d begins with %d", i, first)
		}
	}
}

// P6.1, P6.2: a great set, whose things come in an order of their own and go in another one.
func TestLong(t *testing.T) {
	const n = 200000
	var s Set[int]
	for _, x := range shuffled(n, 1) {
		if !s.Add(2 * x) {
			t.Fatalf("Add(%d)", 2*x)
		}
	}
	for i := range n {
		if x, ok := s.At(i); x != 2*i || !ok || s.From(2*i) != i || s.From(2*i+1) != i+1 || s.Has(2*i+1) {
			t.Fatalf("At(%d) %d %t", i, x, ok)
		}
	}
	for i, x := range shuffled(n, 2) {
		if s.Len() != n-i || !s.Del(2*x) {
			t.Fatalf("Del(%d)", 2*x)
		}
	}
	same(t, "all gone", &s, nil)
}

// P6.2: a going over that is left early, at each place.
func TestLeftEarly(t *testing.T) {
	for n := range 40 {
		s := Of(shuffled(n, 3)...)
		all := s.All()
		for stop := 1; stop <= n; stop++ {
			var got []int
			all(func(i, x int) bool {
				if i != len(got) {
					t.Fatalf("the place %d, want %d", i, len(got))
				}
				got = append(got, x)
				return len(got) < stop
			})
			if !slices.Equal(got, upTo(stop)) {
				t.Fatalf("left after %d of %d: %#v", stop, n, got)
			}
		}
		same(t, "left early", s, upTo(n))
	}
}

// P6.2: one that is gone over again tells what there is by then.
func TestAgain(t *testing.T) {
	var s Set[int]
	all := s.All()
	m := model[int]{}
	next := acts(5)
	again := func() {
		t.Helper()
		for range 2 {
			var got []int
			for i, x := range all {
				if i != len(got) {
					t.Fatalf("the place %d, want %d", i, len(got))
				}
				got = append(got, x)
			}
			if !slices.Equal(got, m.row()) {
				t.Fatalf("again: %#v, want %#v", got, m.row())
			}
		}
	}
	again()
	for range 300 {
		m.act(t, &s, next(2) == 0, next(30))
		again()
	}
	for x := range 30 {
		m.act(t, &s, false, x)
	}
	again()
}

// P6.2: two goings over, one within the other.
func TestWithin(t *testing.T) {
	s := Of(shuffled(9, 4)...)
	var got []int
	all := s.All()
	for i, x := range all {
		for j, y := range all {
			got = append(got, 1000*i+100*x+10*j+y)
			if y == x {
				break
			}
		}
	}
	var want []int
	for x := range 9 {
		for y := range x + 1 {
			want = append(want, 1100*x+11*y)
		}
	}
	if !slices.Equal(got, want) {
		t.Fatalf("within: %#v, want %#v", got, want)
	}
}

// P6.2: a set that is changed while it is gone over: the going tells what there was when it began.
func TestChangedMeanwhile(t *testing.T) {
	changes := []struct {
		name string
		do   func(s *Set[int], x int)
	}{
		{"what is told goes", func(s *Set[int], x int) { s.Del(x) }},
		{"the next one goes", func(s *Set[int], x int) { s.Del(x + 2) }},
		{"the one ahead goes", func(s *Set[int], x int) { s.Del(x - 2) }},
		{"the first one goes", func(s *Set[int], x int) { first, _ := s.At(0); s.Del(first) }},
		{"the last one goes", func(s *Set[int], x int) { last, _ := s.At(s.Len() - 1); s.Del(last) }},
		{"one comes behind it", func(s *Set[int], x int) { s.Add(x + 1) }},
		{"one comes ahead of it", func(s *Set[int], x int) { s.Add(x - 1) }},
		{"one comes behind all", func(s *Set[int], x int) { s.Add(1000 + x) }},
		{"one comes ahead of all", func(s *Set[int], x int) { s.Add(-1000 - x) }},
		{"all go", func(s *Set[int], x int) {
			for s.Len() > 0 {
				last, _ := s.At(s.Len() - 1)
				s.Del(last)
			}
		}},
		{"others come for all", func(s *Set[int], x int) {
			for i := range 60 {
				s.Del(2 * i)
				s.Add(2*i + 1)
			}
		}},
		{"the set is another one", func(s *Set[int], x int) { *s = *Of(5, 4, 3) }},
	}
	for _, c := range changes {
		for n := range 30 {
			var want []int
			s := new(Set[int])
			for _, x := range shuffled(n, 6) {
				s.Add(2 * x)
			}
			for x := range n {
				want = append(want, 2*x)
			}
			var got []int
			for i, x := range s.All() {
				if i != len(got) {
					t.Fatalf("%s meanwhile: the place %d, want %d", c.name, i, len(got))
				}
				got = append(got, x)
				c.do(s, x)
			}
			if !slices.Equal(got, want) {
				t.Fatalf("%s meanwhile, %d: %#v", c.name, n, got)
			}
			sound(t, s.root)
		}
	}
}

// P6.2: what is changed between the call of All and the going counts.
func TestBegins(t *testing.T) {
	s := Of(1, 2, 3)
	all := s.All()
	s.Add(0)
	s.Add(4)
	s.Del(2)
	var got []int
	for i, x := range all {
		if i != len(got) {
			t.Fatalf("the place %d, want %d", i, len(got))
		}
		got = append(got, x)
	}
	if !slices.Equal(got, []int{0, 1, 3, 4}) {
		t.Fatalf("begun later: %#v", got)
	}
}

// P6.1: two sets have nothing of each other.
func TestApart(t *testing.T) {
	a, b := Of("a", "b"), Of("a", "b")
	a.Add("c")
	b.Del("a")
	same(t, "a", a, []string{"a", "b", "c"})
	same(t, "b", b, []string{"b"})
	c := *a
	c.Del("a")
	c.Add("d")
	same(t, "a, of which there is a copy", a, []string{"a", "b", "c"})
	same(t, "the copy", &c, []string{"b", "c", "d"})
}

// P6.1: the list that is handed in is not changed, and not kept.
func TestListHandedIn(t *testing.T) {
	row := []int{3, 1, 3, 2, 9, 8}
	list := row[:4]
	s := Of(list...)
	if !slices.Equal(row, []int{3, 1, 3, 2, 9, 8}) {
		t.Fatalf("the list is %#v by now", row)
	}
	list[0], list[1] = 7, 7
	s.Add(4)
	same(t, "the list changed", s, []int{1, 2, 3, 4})
	if !slices.Equal(row, []int{7, 7, 3, 2, 9, 8}) {
		t.Fatalf("the list is %#v by now", row)
	}
}

// P6.1: nothing is kept of what has gone.
func TestNothingKept(t *testing.T) {
	s := Of(shuffled(50, 7)...)
	for _, x := range shuffled(50, 8) {
		s.Del(x)
	}
	if *s != (Set[int]{}) {
		t.Fatal("a set from which all have gone isn't the zero Set")
	}
}

// shapes answers each balanced tree of n things from low on, by twos.
func shapes(low, n int, memo map[[2]int][]*node[int]) []*node[int] {
	if n == 0 {
		return []*node[int]{nil}
	}
	if l, ok := memo[[2]int{low, n}]; ok {
		return l
	}
	var out []*node[int]
	for left := range n {
		right := n - 1 - left
		if left+1 > 3*(right+1) || right+1 > 3*(left+1) {
			continue
		}
		for _, l := range shapes(low, left, memo) {
			for _, r := range shapes(low+2*left+2, right, memo) {
				out = append(out, join(l, low+2*left, r))
			}
		}
	}
	memo[[2]int{low, n}] = out
	return out
}

// P6.1: what comes to each balanced tree of up to twelve things, and what goes from it, leaves a balanced one.
func TestShapes(t *testing.T) {
	memo := map[[2]int][]*node[int]{}
	for n := range 13 {
		for _, tree := range shapes(1, n, memo) {
			for x := 0; x <= 2*n; x += 2 {
				sound(t, tree.with(x))
			}
			for x := 1; x < 2*n; x += 2 {
				sound(t, tree.without(x))
			}
		}
	}
}

package tree

import (
	"math"
	"slices"
	"strings"
	"testing"

	"retrace/api"
)

// acts makes numbers that look like chance, the same ones for the same seed.
func acts(seed uint32) func(int) int {
	return func(bound int) int {
		seed = seed*1664525 + 1013904223
		return int(seed>>8) % bound
	}
}

// grown is a node and, behind it, those that are handed over, as its kids.
func grown(op int, name string, n int, kids ...[]api.Node) []api.Node {
	l := []api.Node{{Op: op, Name: name, N: n, Kids: len(kids)}}
	for _, k := range kids {
		l = append(l, k...)
	}
	return l
}

// modelKids tells the places of the kids of the node at i, and the place behind it, as the chapter says it.
func modelKids(l []api.Node, i int) ([]int, int) {
	var places []int
	at := i + 1
	for k := 0; k < l[i].Kids && at < len(l); k++ {
		places = append(places, at)
		_, at = modelKids(l, at)
	}
	return places, at
}

// counts makes a list whose nodes have so many kids.
func counts(kids ...int) []api.Node {
	l := make([]api.Node, len(kids))
	for i, k := range kids {
		l[i].Kids = k
	}
	return l
}

// noise makes a list of nodes with any numbers of kids.
func noise(act func(int) int) []api.Node {
	l := make([]api.Node, act(14))
	for i := range l {
		l[i].Kids = act(4) - act(2)
		switch act(30) {
		case 0:
			l[i].Kids = math.MaxInt - act(2)
		case 1:
			l[i].Kids = math.MinInt + act(2)
		case 2:
			l[i].Kids = len(l) + act(3) - 1
		}
	}
	return l
}

func extremes(size int) []int {
	return []int{math.MinInt, math.MinInt + 1, -2, -1, size, size + 1, math.MaxInt - 1, math.MaxInt}
}

// P9.1
func TestPlaces(t *testing.T) {
	for _, c := range []struct {
		l    []api.Node
		i    int
		end  int
		kids []int
		up   int
	}{
		{nil, 0, 0, nil, -1},
		{[]api.Node{}, 0, 0, nil, -1},
		{counts(0), 0, 1, nil, -1},
		{counts(0), 1, 1, nil, -1},
		{counts(0), -1, 1, nil, -1},
		{counts(0), math.MinInt, 1, nil, -1},
		{counts(0), math.MaxInt, 1, nil, -1},
		{counts(1, 1, 0), 0, 3, []int{1}, -1},
		{counts(1, 1, 0), 1, 3, []int{2}, 0},
		{counts(1, 1, 0), 2, 3, nil, 1},
		// Two kids, of which the first one has two.
		{counts(2, 2, 0, 0, 1, 0), 0, 6, []int{1, 4}, -1},
		{counts(2, 2, 0, 0, 1, 0), 1, 4, []int{2, 3}, 0},
		{counts(2, 2, 0, 0, 1, 0), 2, 3, nil, 1},
		{counts(2, 2, 0, 0, 1, 0), 3, 4, nil, 1},
		{counts(2, 2, 0, 0, 1, 0), 4, 6, []int{5}, 0},
		{counts(2, 2, 0, 0, 1, 0), 5, 6, nil, 4},
		{counts(2, 2, 0, 0, 1, 0), 6, 6, nil, -1},
		// Nodes that are kids of none.
		{counts(0, 1, 0, 0), 0, 1, nil, -1},
		{counts(0, 1, 0, 0), 1, 3, []int{2}, -1},
		{counts(0, 1, 0, 0), 2, 3, nil, 1},
		{counts(0, 1, 0, 0), 3, 4, nil, -1},
		// Nodes that are lacking.
		{counts(3, 0), 0, 2, []int{1}, -1},
		{counts(3, 2, 0), 0, 3, []int{1}, -1},
		{counts(3, 2, 0), 1, 3, []int{2}, 0},
		{counts(1), 0, 1, nil, -1},
		// Kids below 0, and more of them than there can be.
		{counts(-1, 0), 0, 1, nil, -1},
		{counts(-1, 0), 1, 2, nil, -1},
		{counts(2, -3, 0), 0, 3, []int{1, 2}, -1},
		{counts(2, math.MinInt, 0), 2, 3, nil, 0},
		{counts(math.MinInt, 0), 0, 1, nil, -1},
		{counts(math.MaxInt, 0, 0), 0, 3, []int{1, 2}, -1},
		{counts(math.MaxInt, 0, 0), 2, 3, nil, 0},
		{counts(math.MaxInt, math.MaxInt, math.MaxInt, 0), 0, 4, []int{1}, -1},
		{counts(math.MaxInt, math.MaxInt, math.MaxInt, 0), 3, 4, nil, 2},
		{counts(math.MaxInt-1, math.MaxInt-1, 0, 0), 1, 4, []int{2, 3}, 0},
	} {
		if end := End(c.l, c.i); end != c.end {
			t.Errorf("End(%v, %d): %d, not %d", c.l, c.i, end, c.end)
		}
		if kids := slices.Collect(Kids(c.l, c.i)); !slices.Equal(kids, c.kids) {
			t.Errorf("Kids(%v, %d): %v, not %v", c.l, c.i, kids, c.kids)
		}
		if up := Up(c.l, c.i); up != c.up {
			t.Errorf("Up(%v, %d): %d, not %d", c.l, c.i, up, c.up)
		}
		for k, at := range c.kids {
			if got := Kid(c.l, c.i, k); got != at {
				t.Errorf("Kid(%v, %d, %d): %d, not %d", c.l, c.i, k, got, at)
			}
		}
		for _, k := range extremes(len(c.kids)) {
			if got := Kid(c.l, c.i, k); got != -1 {
				t.Errorf("Kid(%v, %d, %d): %d, not -1", c.l, c.i, k, got)
			}
		}
	}
}

// P9.1
func TestPlacesOfAnyList(t *testing.T) {
	act := acts(9)
	for range 4000 {
		l := noise(act)
		before := slices.Clone(l)
		up := make([]int, len(l))
		for i := range up {
			up[i] = -1
		}
		for i := range l {
			kids, end := modelKids(l, i)
			if got := End(l, i); got != end {
				t.Fatalf("End(%v, %d): %d, not %d", l, i, got, end)
			}
			if got := slices.Collect(Kids(l, i)); !slices.Equal(got, kids) {
				t.Fatalf("Kids(%v, %d): %v, not %v", l, i, got, kids)
			}
			for k, at := range kids {
				if got := Kid(l, i, k); got != at {
					t.Fatalf("Kid(%v, %d, %d): %d, not %d", l, i, k, got, at)
				}
				up[at] = i
			}
			for _, k := range extremes(len(kids)) {
				if got := Kid(l, i, k); got != -1 {
					t.Fatalf("Kid(%v, %d, %d): %d, not -1", l, i, k, got)
				}
			}
		}
		for i := range l {
			if got := Up(l, i); got != up[i] {
				t.Fatalf("Up(%v, %d): %d, not %d", l, i, got, up[i])
			}
		}
		for _, i := range extremes(len(l)) {
			nowhere(t, l, i)
		}
		if !slices.Equal(l, before) {
			t.Fatalf("%v was changed to %v", before, l)
		}
	}
}

// nowhere holds what is told of a place where there is no node.
func nowhere(t *testing.T, l []api.Node, i int) {
	t.Helper()
	if End(l, i) != len(l) || Up(l, i) != -1 || Kid(l, i, 0) != -1 || Kid(l, i, -1) != -1 {
		t.Fatalf("%v at %d: %d, %d, %d, %d", l, i, End(l, i), Up(l, i), Kid(l, i, 0), Kid(l, i, -1))
	}
	seq := Kids(l, i)
	if seq == nil {
		t.Fatalf("Kids(%v, %d) is nil", l, i)
	}
	for at := range seq {
		t.Fatalf("Kids(%v, %d): %d", l, i, at)
	}
}

// P9.1
func TestKidsLeftEarly(t *testing.T) {
	l := counts(4, 1, 0, 0, 2, 0, 0, 0)
	all := []int{1, 3, 4, 7}
	seq := Kids(l, 0)
	for n := range all {
		var got []int
		for at := range seq {
			got = append(got, at)
			if len(got) > n {
				break
			}
		}
		if !slices.Equal(got, all[:n+1]) {
			t.Errorf("left behind %d: %v", n+1, got)
		}
	}
	if got := slices.Collect(seq); !slices.Equal(got, all) {
		t.Errorf("gone over again: %v", got)
	}
	for a := range seq {
		for b := range seq {
			if !slices.Contains(all, a) || !slices.Contains(all, b) {
				t.Errorf("one within the other: %d, %d", a, b)
			}
		}
	}
}

// P9.1: the list is not kept.
func TestKidsOfListThatChanges(t *testing.T) {
	l := counts(3, 1, 0, 0, 0)
	seq := Kids(l, 0)
	l[0].Kids, l[1].Kids = 1, 0
	if got := slices.Collect(seq); !slices.Equal(got, []int{1, 3, 4}) {
		t.Errorf("changed ahead of the going: %v", got)
	}
	l = counts(3, 1, 0, 0, 0)
	var got []int
	for at := range Kids(l, 0) {
		got = append(got, at)
		clear(l)
	}
	if !slices.Equal(got, []int{1, 3, 4}) {
		t.Errorf("changed during the going: %v", got)
	}
}

// P9.1: what is behind the length is not looked at.
func TestPlacesBehindLength(t *testing.T) {
	whole := counts(2, 0, 0)
	l := whole[:2]
	if End(l, 0) != 2 || Kid(l, 0, 1) != -1 || Up(l, 2) != -1 || !slices.Equal(slices.Collect(Kids(l, 0)), []int{1}) {
		t.Errorf("%v: %d, %d, %d", l, End(l, 0), Kid(l, 0, 1), Up(l, 2))
	}
}

// P9.1: neither nodes that lie deep nor ever so many kids take long, or room that there isn't.
func TestPlacesOfLongLists(t *testing.T) {
	const size = 1 << 20
	deep := make([]api.Node, size)
	for i := range size - 1 {
		deep[i].Kids = 1
	}
	if End(deep, 0) != size || Kid(deep, 0, 0) != 1 || Kid(deep, 0, 1) != -1 || Up(deep, size-1) != size-2 {
		t.Error("one below the other")
	}
	flat := make([]api.Node, size)
	flat[0].Kids = math.MaxInt
	if End(flat, 0) != size || Kid(flat, 0, size-2) != size-1 || Kid(flat, 0, size-1) != -1 || Up(flat, size-1) != 0 {
		t.Error("one beside the other")
	}
	greedy := make([]api.Node, size)
	for i := range greedy {
		greedy[i].Kids = math.MaxInt
	}
	if End(greedy, 0) != size || Kid(greedy, 0, 1) != -1 || Up(greedy, size-1) != size-2 {
		t.Error("more kids than there can be")
	}
}

// P9.3
func TestSame(t *testing.T) {
	one := api.Node{Op: api.OpName, Name: "a", N: 3, Kids: 2, At: 4}
	with := func(change func(*api.Node)) []api.Node {
		n := one
		change(&n)
		return []api.Node{{}, n}
	}
	as := []api.Node{{}, one}
	for _, c := range []struct {
		what string
		a, b []api.Node
		same bool
	}{
		{"nil and nil", nil, nil, true},
		{"nil and empty", nil, []api.Node{}, true},
		{"empty and nil", []api.Node{}, nil, true},
		{"nil and one", nil, []api.Node{{}}, false},
		{"one and nil", []api.Node{{}}, nil, false},
		{"itself", as, as, true},
		{"alike", as, with(func(*api.Node) {}), true},
		{"At", as, with(func(n *api.Node) { n.At = math.MinInt }), true},
		{"Op", as, with(func(n *api.Node) { n.Op++ }), false},
		{"Name", as, with(func(n *api.Node) { n.Name = "b" }), false},
		{"a longer name", as, with(func(n *api.Node) { n.Name = "aa" }), false},
		{"no name", as, with(func(n *api.Node) { n.Name = "" }), false},
		{"N", as, with(func(n *api.Node) { n.N = 4 }), false},
		{"Kids", as, with(func(n *api.Node) { n.Kids = 1 }), false},
		{"N and Kids", as, with(func(n *api.Node) { n.N, n.Kids = n.Kids, n.N }), false},
		{"shorter", as, as[:1], false},
		{"longer", as[:1], as, false},
		{"the other way round", as, []api.Node{one, {}}, false},
	} {
		if got := Same(c.a, c.b); got != c.same {
			t.Errorf("%s: %v", c.what, got)
		}
		if got := Same(c.b, c.a); got != c.same {
			t.Errorf("%s, turned round: %v", c.what, got)
		}
	}
	if as[1] != one {
		t.Errorf("changed to %v", as[1])
	}
}

// P9.3: no node is passed over, and no place of a node counts.
func TestSameEachNode(t *testing.T) {
	act := acts(93)
	for range 200 {
		a := unitOf(act)
		b := slices.Clone(a)
		for i := range b {
			b[i].At = act(100)
		}
		if !Same(a, b) {
			t.Fatalf("%v and %v: not the same", a, b)
		}
		n := &b[act(len(b))]
		switch act(4) {
		case 0:
			n.Op += 1 + act(3)
		case 1:
			n.Name += "x"
		case 2:
			n.N -= 1 + act(3)
		case 3:
			n.Kids += 1 + act(3)
		}
		if Same(a, b) || Same(b, a) {
			t.Fatalf("%v and %v: the same", a, b)
		}
	}
}

// P9.4
func TestOneParentAhead(t *testing.T) {
	act := acts(94)
	for range 300 {
		l := unitOf(act)
		if at, e := Check(l); at != 0 || e != api.OK {
			t.Fatalf("%v: %d, %d", l, at, e)
		}
		ups := make([][]int, len(l))
		for i := range l {
			for at := range Kids(l, i) {
				ups[at] = append(ups[at], i)
			}
		}
		for i, up := range ups {
			switch {
			case i == 0 && (len(up) > 0 || Up(l, 0) != -1):
				t.Fatalf("%v: the first one is below %v, %d", l, up, Up(l, 0))
			case i > 0 && (len(up) != 1 || up[0] >= i || Up(l, i) != up[0]):
				t.Fatalf("%v: %d is below %v, %d", l, i, up, Up(l, i))
			}
		}
		if End(l, 0) != len(l) {
			t.Fatalf("%v: ends at %d", l, End(l, 0))
		}
	}
}

// Example 1.
func TestExample(t *testing.T) {
	l := grown(api.OpUnit, "", 0, grown(api.OpMain, "", 0, grown(api.OpBlock, "", 0)))
	if at, e := Check(l); len(l) != 3 || End(l, 0) != 3 || at != 0 || e != api.OK {
		t.Errorf("%v: %d, %d, %d", l, End(l, 0), at, e)
	}
}

// unitOf makes a unit.
func unitOf(act func(int) int) []api.Node {
	return grow(act, 'U', 5)
}

// grow makes a node of the class, with all that is below it, so deep at most that the least ones have room.
func grow(act func(int) int, class byte, deep int) []api.Node {
	var of []kind
	for _, k := range kinds {
		if k.class == class {
			of = append(of, k)
		}
	}
	k := of[act(len(of))]
	if deep <= 0 {
		return least(class)
	}
	name := ""
	if k.named {
		name = []string{"a", "b_1", "Whiles", strings.Repeat("z", api.MaxName)}[act(4)]
	}
	n := []int{0, k.most, act(k.most + 1)}[act(3)]
	row, ok := "", false
	for !ok {
		row, ok = k.row(n, act(5))
	}
	var kids [][]api.Node
	for i := range len(row) {
		kids = append(kids, grow(act, row[i], deep-1))
	}
	return grown(k.op, name, n, kids...)
}

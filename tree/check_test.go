package tree

import (
	"math"
	"regexp"
	"slices"
	"strings"
	"testing"

	"retrace/api"
)

// kind is what the chapter's table says of a kind of nodes. A row is the classes of its kids, of which that behind which a
// * stands may stand as often as one likes.
type kind struct {
	op    int
	class byte
	named bool
	most  int
	rows  []string
}

var kinds = allKinds()

func allKinds() []kind {
	l := []kind{
		{api.OpNumber, 'E', false, 999999999999999999, []string{""}},
		{api.OpName, 'E', true, 0, []string{""}},
		{api.OpNeg, 'E', false, 0, []string{"E"}},
		{api.OpNot, 'E', false, 0, []string{"E"}},
		{api.OpRef, 'R', true, 0, []string{"", "E"}},
		{api.OpVar, 'S', true, 0, []string{"E"}},
		{api.OpSet, 'S', true, 0, []string{"E"}},
		{api.OpDraw, 'S', true, 0, []string{"E"}},
		{api.OpSend, 'S', false, 0, []string{"RE"}},
		{api.OpRecv, 'S', true, 0, []string{"R"}},
		{api.OpIf, 'S', false, 0, []string{"EB", "EBB"}},
		{api.OpWhile, 'S', false, 0, []string{"EB"}},
		{api.OpSelect, 'S', false, 0, []string{"CC*"}},
		{api.OpStart, 'S', true, 0, []string{"E*"}},
		{api.OpSleep, 'S', false, 0, []string{"E"}},
		{api.OpPrint, 'S', false, 0, []string{"E"}},
		{api.OpAssert, 'S', false, 0, []string{"E"}},
		{api.OpSkip, 'S', false, 0, []string{""}},
		{api.OpStop, 'S', false, 0, []string{""}},
		{api.OpBlock, 'B', false, 0, []string{"S*"}},
		{api.OpOnRecv, 'C', true, 1, []string{"RB"}},
		{api.OpOnSend, 'C', false, 1, []string{"REB"}},
		{api.OpAfter, 'C', false, 1, []string{"EB"}},
		{api.OpElse, 'C', false, 0, []string{"B"}},
		{api.OpChan, 'D', true, 16, []string{""}},
		{api.OpProc, 'D', true, 0, []string{"P*B"}},
		{api.OpMain, 'D', false, 0, []string{"B"}},
		{api.OpParam, 'P', true, 0, []string{""}},
		{api.OpUnit, 'U', false, 0, []string{"D*"}},
	}
	for op := 5; op <= 17; op++ {
		l = append(l, kind{op, 'E', false, 0, []string{"EE"}})
	}
	return l
}

// row tells the classes of so many kids of a node with this N, if there may be so many.
func (k kind) row(n, count int) (string, bool) {
	for _, r := range k.rows {
		if k.class == 'C' && n == 1 {
			r = "E" + r
		}
		if i := strings.Index(r, "*"); i >= 0 && count >= len(r)-2 {
			// No list here is so long that more would be looked at.
			often := min(count-(len(r)-2), 1000)
			r = r[:i-1] + strings.Repeat(r[i-1:i], often) + r[i+1:]
			return r, true
		}
		if len(r) == count {
			return r, true
		}
	}
	return "", false
}

// least makes the least node of the class, with all that is below it.
func least(class byte) []api.Node {
	body := grown(api.OpBlock, "", 0)
	switch class {
	case 'E':
		return grown(api.OpNumber, "", 7)
	case 'R':
		return grown(api.OpRef, "c", 0)
	case 'S':
		return grown(api.OpSkip, "", 0)
	case 'B':
		return body
	case 'C':
		return grown(api.OpElse, "", 0, body)
	case 'D':
		return grown(api.OpMain, "", 0, body)
	case 'P':
		return grown(api.OpParam, "p", 0)
	}
	return grown(api.OpUnit, "", 0)
}

// sample makes a node of the kind with this N and so many kids, the least ones.
func (k kind) sample(n, count int) ([]api.Node, bool) {
	row, ok := k.row(n, count)
	if !ok {
		return nil, false
	}
	var kids [][]api.Node
	for i := range len(row) {
		kids = append(kids, least(row[i]))
	}
	name := ""
	if k.named {
		name = "x"
	}
	return grown(k.op, name, n, kids...), true
}

// within makes a unit around a node of the class, and tells its place.
func within(l []api.Node, class byte) ([]api.Node, int) {
	body := grown(api.OpBlock, "", 0)
	switch class {
	case 'E':
		return below(grown(api.OpPrint, "", 0, l), 'S')
	case 'R':
		return below(grown(api.OpRecv, "x", 0, l), 'S')
	case 'C':
		return below(grown(api.OpSelect, "", 0, l), 'S')
	case 'S':
		return below(grown(api.OpBlock, "", 0, l), 'B')
	case 'B':
		return below(grown(api.OpMain, "", 0, l), 'D')
	case 'P':
		return below(grown(api.OpProc, "x", 0, l, body), 'D')
	case 'D':
		return below(grown(api.OpUnit, "", 0, l), 'U')
	}
	return l, 0
}

// below is within, of the node right behind the first one.
func below(l []api.Node, class byte) ([]api.Node, int) {
	u, at := within(l, class)
	return u, at + 1
}

var nameForm = regexp.MustCompile(`^[a-zA-Z_][a-zA-Z_0-9]{0,15}$`)

var words = strings.Fields("chan proc main var if else while select case when after start sleep random print assert skip stop")

// fitting tells the classes of the node's kids, if a node of the class may have its kind, name, N and so many kids.
func fitting(n api.Node, class byte) (string, bool) {
	for _, k := range kinds {
		if k.op != n.Op {
			continue
		}
		if k.class != class || n.N < 0 || n.N > k.most {
			return "", false
		}
		name := nameForm.MatchString(n.Name) && !slices.Contains(words, n.Name)
		if k.named && !name || !k.named && n.Name != "" {
			return "", false
		}
		return k.row(n.N, n.Kids)
	}
	return "", false
}

// modelRead reads a node of the class at i, and tells the place behind all of it, or the first one that is wrong.
func modelRead(l []api.Node, i int, class byte) (int, bool) {
	if i >= len(l) {
		return len(l), false
	}
	row, ok := fitting(l[i], class)
	if !ok {
		return i, false
	}
	at := i + 1
	for k := range len(row) {
		if at, ok = modelRead(l, at, row[k]); !ok {
			return at, false
		}
	}
	return at, true
}

func modelCheck(l []api.Node) (int, api.Errno) {
	at, ok := modelRead(l, 0, 'U')
	if ok && at == len(l) {
		return 0, api.OK
	}
	return at, api.ErrForm
}

// holds holds Check of l against the place that is told; -1 stands for that of a unit.
func holds(t *testing.T, what string, l []api.Node, place int) {
	t.Helper()
	want := api.ErrForm
	if place < 0 {
		place, want = 0, api.OK
	}
	before := slices.Clone(l)
	if at, e := Check(l); at != place || e != want {
		t.Fatalf("%s: %v: %d, %d, not %d, %d", what, l, at, e, place, want)
	}
	if at, e := modelCheck(l); at != place || e != want {
		t.Fatalf("%s: %v: the model has %d, %d, not %d, %d", what, l, at, e, place, want)
	}
	if !slices.Equal(l, before) {
		t.Fatalf("%s: %v was changed to %v", what, before, l)
	}
}

// P9.2
func TestCheckEachKindInEachPlace(t *testing.T) {
	for _, k := range kinds {
		for n := range 2 {
			for count := range 6 {
				l, ok := k.sample(n, count)
				if !ok || n > k.most {
					continue
				}
				for _, class := range []byte("ERSBCDPU") {
					u, at := within(l, class)
					if class == k.class {
						at = -1
					}
					holds(t, "a kind in a place of "+string(class), u, at)
				}
			}
		}
	}
}

// P9.2: each kind, with the least kids, in the place of each kid of each kind.
func TestCheckEachKid(t *testing.T) {
	for _, outer := range kinds {
		for n := range 2 {
			for count := range 6 {
				l, ok := outer.sample(n, count)
				if !ok || n > outer.most {
					continue
				}
				row, _ := outer.row(n, count)
				for k := range count {
					eachAsKid(t, outer, l, k, row[k])
				}
			}
		}
	}
}

// eachAsKid holds each kind in the place of the k-th kid of the outer node, which is of the class.
func eachAsKid(t *testing.T, outer kind, l []api.Node, k int, class byte) {
	t.Helper()
	at := Kid(l, 0, k)
	for _, inner := range kinds {
		for count := range 5 {
			piece, ok := inner.sample(0, count)
			if !ok {
				continue
			}
			swapped := slices.Concat(l[:at], piece, l[End(l, at):])
			u, start := within(swapped, outer.class)
			place := start + at
			if inner.class == class {
				place = -1
			}
			holds(t, "a kid", u, place)
			break
		}
	}
}

// P9.2
func TestCheckNoKind(t *testing.T) {
	for _, op := range []int{api.OpNone, -1, 43, 44, 64, 256 + api.OpSkip, math.MinInt, math.MinInt + api.OpSkip, math.MaxInt} {
		for _, class := range []byte("ERSBCDPU") {
			u, at := within(grown(op, "", 0), class)
			holds(t, "no kind", u, at)
			u, at = within(grown(op, "x", 0), class)
			holds(t, "no kind, with a name", u, at)
		}
		u := append(least('U'), grown(op, "", 0)...)
		holds(t, "no kind behind the unit", u, 1)
	}
}

// P9.2
func TestCheckNames(t *testing.T) {
	long := strings.Repeat("n", api.MaxName)
	good := []string{"a", "_", "A9", "mains", "Main", "random_", "x", long}
	bad := []string{"", "9", "9a", "a b", " a", "a ", "a;", "a\x00", "\xff", "ä", "a-b", "if", "main", "random", "chan", "stop", long + "n", "#", "a\n", "+"}
	bad = append(bad, words...)
	for _, k := range kinds {
		for count := range 4 {
			l, ok := k.sample(0, count)
			if !ok {
				continue
			}
			u, at := within(l, k.class)
			for _, name := range good {
				u[at].Name = name
				if k.named {
					holds(t, "a name", u, -1)
				} else {
					holds(t, "a name where none may be", u, at)
				}
			}
			for _, name := range bad {
				u[at].Name = name
				if k.named || name != "" {
					holds(t, "no name", u, at)
				} else {
					holds(t, "no name where none may be", u, -1)
				}
			}
		}
	}
}

// P9.2
func TestCheckN(t *testing.T) {
	for _, k := range kinds {
		for count := range 5 {
			for _, n := range []int{math.MinInt, -1, 0, 1, 2, 15, 16, 17, 99999999999999999, 999999999999999999, 1000000000000000000, math.MaxInt} {
				l, ok := k.sample(min(max(n, 0), k.most), count)
				if !ok {
					continue
				}
				u, at := within(l, k.class)
				u[at].N = n
				if n >= 0 && n <= k.most {
					at = -1
				}
				holds(t, "an N", u, at)
			}
		}
	}
}

// P9.2: the N of a case says whether a term stands ahead.
func TestCheckGuards(t *testing.T) {
	for _, k := range kinds {
		if k.most != 1 {
			continue
		}
		bare, _ := k.sample(0, len(k.rows[0]))
		u, at := within(bare, 'C')
		u[at].N = 1
		holds(t, "no term where N is 1", u, at)
		guarded, _ := k.sample(1, len(k.rows[0])+1)
		u, at = within(guarded, 'C')
		u[at].N = 0
		holds(t, "a term where N is 0", u, at)
		guarded[1] = grown(api.OpSkip, "", 0)[0]
		u, at = within(guarded, 'C')
		holds(t, "no term ahead", u, at+1)
	}
}

// P9.2
func TestCheckNumbersOfKids(t *testing.T) {
	may := map[int][]int{
		api.OpIf: {2, 3}, api.OpRef: {0, 1},
		api.OpUnit: {0, 1, 2, 3, 4, 5}, api.OpBlock: {0, 1, 2, 3, 4, 5}, api.OpStart: {0, 1, 2, 3, 4, 5},
		api.OpSelect: {1, 2, 3, 4, 5}, api.OpProc: {1, 2, 3, 4, 5},
		api.OpSend: {2}, api.OpWhile: {2}, api.OpOnRecv: {2}, api.OpOnSend: {3}, api.OpAfter: {2},
		api.OpNumber: {0}, api.OpName: {0}, api.OpSkip: {0}, api.OpStop: {0}, api.OpChan: {0}, api.OpParam: {0},
	}
	for _, k := range kinds {
		counts := may[k.op]
		switch {
		case counts != nil:
		case k.op >= api.OpAdd && k.op <= api.OpOr:
			counts = []int{2}
		default:
			counts = []int{1}
		}
		for count := range 6 {
			l, ok := k.sample(0, count)
			if ok != slices.Contains(counts, count) {
				t.Fatalf("kind %d with %d kids: the model has %v", k.op, count, ok)
			}
			if ok {
				u, _ := within(l, k.class)
				holds(t, "so many kids", u, -1)
				continue
			}
			// Too few or too many of them: kids that would fit, as far as they go.
			most := counts[len(counts)-1]
			l, _ = k.sample(0, most)
			end := len(l)
			if count < most {
				end = Kid(l, 0, count)
			}
			for range count - most {
				l = append(l, least('E')...)
				end = len(l)
			}
			l = slices.Clone(l[:end])
			l[0].Kids = count
			u, at := within(l, k.class)
			holds(t, "not so many kids", u, at)
		}
		l, _ := k.sample(0, counts[0])
		for _, count := range []int{-1, -2, -7, math.MinInt, math.MinInt + 1, math.MinInt + 2, math.MinInt + 3} {
			u, at := within(l, k.class)
			u[at].Kids = count
			holds(t, "kids below 0", u, at)
		}
	}
}

// P9.2: ever so many kids may be where one likes as many, but they are lacking then.
func TestCheckGreatNumbersOfKids(t *testing.T) {
	for _, k := range kinds {
		for _, great := range []int{1 << 32, 1<<32 + 2, math.MaxInt - 1, math.MaxInt} {
			l := grown(k.op, "", 0)
			if k.named {
				l[0].Name = "x"
			}
			l[0].Kids = great
			u, at := within(l, k.class)
			switch k.op {
			case api.OpUnit, api.OpBlock, api.OpStart, api.OpSelect, api.OpProc:
				holds(t, "lacking", u, len(u))
			default:
				holds(t, "too many", u, at)
			}
		}
	}
	// The block of such a routine never comes.
	u := grown(api.OpUnit, "", 0, grown(api.OpProc, "x", 0, least('P'), least('P'), least('B')))
	u[1].Kids = math.MaxInt
	holds(t, "a block among parameters", u, 4)
}

// P9.2
func TestCheckLackingAndBehind(t *testing.T) {
	holds(t, "nil", nil, 0)
	holds(t, "empty", []api.Node{}, 0)
	holds(t, "a unit alone", least('U'), -1)
	for _, class := range []byte("ERSBCDP") {
		holds(t, "no unit", least(class), 0)
		holds(t, "behind the unit", slices.Concat(least('U'), least(class)), 1)
	}
	holds(t, "two units", slices.Concat(least('U'), least('U')), 1)
	holds(t, "a unit within a unit", grown(api.OpUnit, "", 0, least('U')), 1)
	act := acts(92)
	for range 100 {
		l := unitOf(act)
		for n := range l {
			holds(t, "cut off", l[:n:n], n)
		}
		holds(t, "whole", l, -1)
		holds(t, "one node behind it", append(slices.Clone(l), l[act(len(l))]), len(l))
		holds(t, "all of it twice", slices.Concat(l, l), len(l))
	}
}

// P9.2: what lies behind the length is not looked at.
func TestCheckBehindLength(t *testing.T) {
	l := slices.Concat(least('U'), least('D'))
	holds(t, "behind the length", l[:1], -1)
	l = grown(api.OpUnit, "", 0, least('D'))
	holds(t, "behind the length", l[:2], 2)
}

// P9.2: the first place that is wrong is told, whatever is wrong behind it.
func TestCheckFirstWrong(t *testing.T) {
	act := acts(29)
	wrong := 0
	for range 20000 {
		l := unitOf(act)
		for range 1 + act(3) {
			spoil(act, &l)
		}
		at, e := Check(l)
		wantAt, wantE := modelCheck(l)
		if at != wantAt || e != wantE {
			t.Fatalf("%v: %d, %d, not %d, %d", l, at, e, wantAt, wantE)
		}
		if e != api.OK {
			wrong++
		}
	}
	if wrong < 5000 || wrong > 19000 {
		t.Errorf("%d of 20000 were wrong", wrong)
	}
}

// spoil changes something in the list.
func spoil(act func(int) int, l *[]api.Node) {
	if len(*l) == 0 {
		return
	}
	i := act(len(*l))
	n := &(*l)[i]
	switch act(8) {
	case 0:
		n.Op = act(46) - 1
	case 1:
		n.Name = []string{"", "y", "else", strings.Repeat("m", 17)}[act(4)]
	case 2:
		n.N = act(19) - 1
	case 3:
		n.Kids += act(5) - 2
	case 4:
		*l = slices.Delete(*l, i, i+1)
	case 5:
		*l = slices.Insert(*l, i, (*l)[act(len(*l))])
	case 6:
		j := act(len(*l))
		(*l)[i], (*l)[j] = (*l)[j], (*l)[i]
	case 7:
		n.At = act(1000) - 500
	}
}

// P9.2: any At may be.
func TestCheckAt(t *testing.T) {
	act := acts(30)
	for range 50 {
		l := unitOf(act)
		for i := range l {
			l[i].At = []int{math.MinInt, -1, 0, 1, math.MaxInt}[act(5)]
		}
		holds(t, "any At", l, -1)
	}
}

// P9.2: nodes that lie ever so deep.
func TestCheckDeep(t *testing.T) {
	const deep = 1 << 20
	l := grown(api.OpUnit, "", 0, grown(api.OpMain, "", 0, grown(api.OpBlock, "", 0, grown(api.OpPrint, "", 0, least('E')))))
	signs := make([]api.Node, deep)
	for i := range signs {
		signs[i] = api.Node{Op: api.OpNot, Kids: 1}
	}
	l = slices.Concat(l[:4], signs, l[4:])
	if at, e := Check(l); at != 0 || e != api.OK {
		t.Errorf("deep: %d, %d", at, e)
	}
	if at, e := Check(l[:len(l)-1]); at != len(l)-1 || e != api.ErrForm {
		t.Errorf("deep, cut off: %d, %d", at, e)
	}
}

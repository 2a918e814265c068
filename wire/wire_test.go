package wire

import (
	"math"
	"slices"
	"strconv"
	"strings"
	"testing"

	"retrace/api"
)

// plainNum has the bytes of u as the document tells them: digits of seven bits, the lowest first.
func plainNum(u uint64) string {
	var bytes []byte
	for u > 127 {
		bytes = append(bytes, byte(u%128)+128)
		u /= 128
	}
	return string(append(bytes, byte(u)))
}

// plainInt has the bytes of n: 0, -1, 1, -2, 2 and so on are 0, 1, 2, 3, 4 and so on.
func plainInt(n int) string {
	if n < 0 {
		return plainNum(2*uint64(-(n+1)) + 1)
	}
	return plainNum(2 * uint64(n))
}

func plainText(s string) string {
	return plainNum(uint64(len(s))) + s
}

func plainInts(l []int) string {
	bytes := plainNum(uint64(len(l)))
	for _, n := range l {
		bytes += plainInt(n)
	}
	return bytes
}

func numbers() []uint64 {
	list := []uint64{0, 1, 2, 127, 128, 129, 255, 256, 300, 16383, 16384, 1<<32 - 1, 1 << 32, math.MaxInt64, 1 << 63, math.MaxUint64}
	for bit := range 64 {
		list = append(list, 1<<bit, 1<<bit-1, 1<<bit+1)
	}
	return list
}

func ints() []int {
	list := []int{0, 1, -1, 2, -2, 63, 64, -64, -65, 300, -300, math.MaxInt32, math.MinInt32, math.MaxInt, math.MinInt}
	for bit := range 63 {
		list = append(list, 1<<bit, -1<<bit, 1<<bit-1, 1-1<<bit)
	}
	return list
}

func texts() []string {
	return []string{
		"", "a", "ab", "\x00", "\xff\xfe", "caf\xc3\xa9", "a\nb\n",
		strings.Repeat("x", 127), strings.Repeat("y", 128), strings.Repeat("\x80", 16384), strings.Repeat("retrace ", 1<<15),
	}
}

func lists() [][]int {
	return [][]int{nil, {}, {0}, {-1}, {5, -2}, {300, -300, 0}, ints(), make([]int, 127), make([]int, 128)}
}

// written tells what a new Writer has when it was written to.
func written(write func(w *Writer)) string {
	w := &Writer{}
	write(w)
	return w.Bytes()
}

// P3.1
func TestExample(t *testing.T) {
	got := written(func(w *Writer) {
		w.Int(-1)
		w.Text("ab")
		w.Bool(true)
	})
	if got != string([]byte{1, 2, 97, 98, 1}) {
		t.Errorf("%q", got)
	}
}

// P3.1
func TestZeroWriter(t *testing.T) {
	var value Writer
	if (&Writer{}).Bytes() != "" || value.Bytes() != "" || new(Writer).Bytes() != "" {
		t.Error("the zero Writer has written something")
	}
	value.Num(7)
	value.Raw("z")
	if value.Bytes() != "\x07z" {
		t.Errorf("%q", value.Bytes())
	}
}

// P3.1
func TestWrittenBytes(t *testing.T) {
	cases := []struct {
		name  string
		write func(w *Writer)
		want  string
	}{
		{"Num 0", func(w *Writer) { w.Num(0) }, "\x00"},
		{"Num 300", func(w *Writer) { w.Num(300) }, "\xac\x02"},
		{"Num, the greatest", func(w *Writer) { w.Num(math.MaxUint64) }, "\xff\xff\xff\xff\xff\xff\xff\xff\xff\x01"},
		{"Int 0", func(w *Writer) { w.Int(0) }, "\x00"},
		{"Int -3", func(w *Writer) { w.Int(-3) }, "\x05"},
		{"Int 64", func(w *Writer) { w.Int(64) }, "\x80\x01"},
		{"Int, the least", func(w *Writer) { w.Int(math.MinInt) }, "\xff\xff\xff\xff\xff\xff\xff\xff\xff\x01"},
		{"Bool, true", func(w *Writer) { w.Bool(true) }, "\x01"},
		{"Bool, false", func(w *Writer) { w.Bool(false) }, "\x00"},
		{"Text, empty", func(w *Writer) { w.Text("") }, "\x00"},
		{"Text", func(w *Writer) { w.Text("\x00\xff") }, "\x02\x00\xff"},
		{"Text, of bytes, not of runes", func(w *Writer) { w.Text("caf\xc3\xa9") }, "\x05caf\xc3\xa9"},
		{"Raw, empty", func(w *Writer) { w.Raw("") }, ""},
		{"Raw", func(w *Writer) { w.Raw("\x00\xffa") }, "\x00\xffa"},
		{"Ints, nil", func(w *Writer) { w.Ints(nil) }, "\x00"},
		{"Ints, empty", func(w *Writer) { w.Ints([]int{}) }, "\x00"},
		{"Ints", func(w *Writer) { w.Ints([]int{5, -2, 64}) }, "\x03\x0a\x03\x80\x01"},
	}
	for _, c := range cases {
		if got := written(c.write); got != c.want {
			t.Errorf("%s: %q, not %q", c.name, got, c.want)
		}
	}
}

// P3.1
func TestWrittenAsThePlainForm(t *testing.T) {
	for _, u := range numbers() {
		if got := written(func(w *Writer) { w.Num(u) }); got != plainNum(u) {
			t.Errorf("Num(%d): %q", u, got)
		}
	}
	for _, n := range ints() {
		if got := written(func(w *Writer) { w.Int(n) }); got != plainInt(n) {
			t.Errorf("Int(%d): %q", n, got)
		}
	}
	for _, s := range texts() {
		if written(func(w *Writer) { w.Text(s) }) != plainText(s) || written(func(w *Writer) { w.Raw(s) }) != s {
			t.Errorf("a text of %d bytes", len(s))
		}
	}
	for _, l := range lists() {
		if written(func(w *Writer) { w.Ints(l) }) != plainInts(l) {
			t.Errorf("Ints(%v)", l)
		}
	}
}

// P3.1
func TestEachCallWritesBehind(t *testing.T) {
	w := &Writer{}
	want := ""
	for round := range 200 {
		w.Num(uint64(round))
		w.Raw("-")
		want += plainNum(uint64(round)) + "-"
		w.Text(strings.Repeat("t", round))
		w.Bool(round%2 == 1)
		want += plainText(strings.Repeat("t", round)) + string([]byte{byte(round % 2)})
		w.Ints([]int{round, -round})
		w.Int(-round)
		want += plainInts([]int{round, -round}) + plainInt(-round)
		if got := w.Bytes(); got != want || w.Bytes() != got {
			t.Fatalf("round %d", round)
		}
	}
}

// P3.1
func TestWriterKeepsNoList(t *testing.T) {
	l := []int{1, 2, 3}
	w := &Writer{}
	w.Ints(l[:2])
	ahead := w.Bytes()
	l[0], l[1], l[2] = 9, 9, 9
	w.Raw("!")
	if ahead != "\x02\x02\x04" || w.Bytes() != "\x02\x02\x04!" {
		t.Errorf("%q, %q", ahead, w.Bytes())
	}
	l = []int{4, -4}
	w.Ints(l)
	if !slices.Equal(l, []int{4, -4}) {
		t.Error("the list that was handed in is changed")
	}
}

// P3.1
func TestTwoWritersAreTwo(t *testing.T) {
	a, b := &Writer{}, &Writer{}
	for range 100 {
		a.Raw("a")
		b.Raw("b")
	}
	if a.Bytes() != strings.Repeat("a", 100) || b.Bytes() != strings.Repeat("b", 100) {
		t.Error("what one has written, the other one has")
	}
}

// P3.1
func TestNilWriter(t *testing.T) {
	var w *Writer
	w.Num(1)
	w.Int(1)
	w.Bool(true)
	w.Bool(false)
	w.Text("ab")
	w.Text("")
	w.Raw("ab")
	w.Ints([]int{1, 2})
	w.Ints(nil)
	if w.Bytes() != "" {
		t.Errorf("%q", w.Bytes())
	}
}

// read is a read of any kind, its answer written out.
type read struct {
	name string
	do   func(r *Reader) string
}

func num() read {
	return read{"Num()", func(r *Reader) string { return strconv.FormatUint(r.Num(), 10) }}
}

func upto(most int) read {
	return read{"Upto(" + strconv.Itoa(most) + ")", func(r *Reader) string { return strconv.Itoa(r.Upto(most)) }}
}

func oneInt() read {
	return read{"Int()", func(r *Reader) string { return strconv.Itoa(r.Int()) }}
}

func oneBool() read {
	return read{"Bool()", func(r *Reader) string { return strconv.FormatBool(r.Bool()) }}
}

func text(most int) read {
	return read{"Text(" + strconv.Itoa(most) + ")", func(r *Reader) string { return "'" + r.Text(most) + "'" }}
}

func raw(n int) read {
	return read{"Raw(" + strconv.Itoa(n) + ")", func(r *Reader) string { return "'" + r.Raw(n) + "'" }}
}

func someInts(most int) read {
	return read{"Ints(" + strconv.Itoa(most) + ")", func(r *Reader) string { return listed(r.Ints(most)) }}
}

func listed(l []int) string {
	parts := []string{}
	for _, n := range l {
		parts = append(parts, strconv.Itoa(n))
	}
	return "[" + strings.Join(parts, " ") + "]"
}

func allReads() []read {
	return []read{
		num(), oneInt(), oneBool(), upto(-1), upto(0), upto(1), upto(127), upto(math.MaxInt), upto(math.MinInt),
		text(-1), text(0), text(1), text(2), text(math.MaxInt), raw(math.MinInt), raw(-1), raw(0), raw(1), raw(2), raw(math.MaxInt),
		someInts(-1), someInts(0), someInts(1), someInts(3), someInts(math.MaxInt),
	}
}

// tellsNothing: 0, false, the empty text, or no ints.
func tellsNothing(answer string) bool {
	return slices.Contains([]string{"0", "false", "''", "[]"}, answer)
}

// P3.2
func TestReads(t *testing.T) {
	cases := []struct {
		s    string
		read read
		want string
		left int
	}{
		{"\x00", num(), "0", 0},
		{"\xac\x02", num(), "300", 0},
		{"\x05\x06", num(), "5", 1},
		{"\xff\xff\xff\xff\xff\xff\xff\xff\xff\x01", num(), "18446744073709551615", 0},
		{"\x00", oneInt(), "0", 0},
		{"\x05", oneInt(), "-3", 0},
		{"\x06x", oneInt(), "3", 1},
		{"\xff\xff\xff\xff\xff\xff\xff\xff\xff\x01", oneInt(), "-9223372036854775808", 0},
		{"\xfe\xff\xff\xff\xff\xff\xff\xff\xff\x01", oneInt(), "9223372036854775807", 0},
		{"\x00", upto(0), "0", 0},
		{"\x04\x04", upto(4), "4", 1},
		{"\x04", upto(5), "4", 0},
		{"\xac\x02", upto(300), "300", 0},
		{"\xff\xff\xff\xff\xff\xff\xff\xff\x7f", upto(math.MaxInt), "9223372036854775807", 0},
		{"\x00\x01", oneBool(), "false", 1},
		{"\x01", oneBool(), "true", 0},
		{"\x00", text(0), "''", 0},
		{"\x00ab", text(9), "''", 2},
		{"\x02abc", text(2), "'ab'", 1},
		{"\x02ab", text(math.MaxInt), "'ab'", 0},
		{"\x01\xff", text(1), "'\xff'", 0},
		{"", raw(0), "''", 0},
		{"abc", raw(0), "''", 3},
		{"abc", raw(2), "'ab'", 1},
		{"\x80\x00", raw(2), "'\x80\x00'", 0},
		{"\x00", someInts(0), "[]", 0},
		{"\x00\x02", someInts(5), "[]", 1},
		{"\x02\x0a\x03\x01", someInts(2), "[5 -2]", 1},
		{"\x01\x80\x01", someInts(math.MaxInt), "[64]", 0},
	}
	for _, c := range cases {
		r := Open(c.s)
		if got := c.read.do(r); got != c.want || r.Left() != c.left || r.Err() != api.OK {
			t.Errorf("%s of %q: %s, %d left, error %d", c.read.name, c.s, got, r.Left(), r.Err())
		}
	}
}

// P3.2
func TestReadsOfWhatIsWrong(t *testing.T) {
	tooMany := "\xff\xff\xff\xff\xff\xff\xff\xff\xff\x02"
	aboveInt := "\x80\x80\x80\x80\x80\x80\x80\x80\x80\x01"
	cases := []struct {
		s    string
		read read
		want api.Errno
		left int
	}{
		{"", num(), api.ErrShort, 0},
		{"\x80", num(), api.ErrShort, 1},
		{"\x80\x00", num(), api.ErrForm, 2},
		{tooMany, num(), api.ErrForm, 10},
		{"", oneInt(), api.ErrShort, 0},
		{"\xff\xff", oneInt(), api.ErrShort, 2},
		{"\x81\x00\x05", oneInt(), api.ErrForm, 3},
		{tooMany, oneInt(), api.ErrForm, 10},
		{"", upto(5), api.ErrShort, 0},
		{"", upto(-1), api.ErrShort, 0},
		{"\x80", upto(-1), api.ErrShort, 1},
		{"\x80\x00", upto(-1), api.ErrForm, 2},
		{"\x00", upto(-1), api.ErrRange, 1},
		{"\x00", upto(math.MinInt), api.ErrRange, 1},
		{"\x01", upto(0), api.ErrRange, 1},
		{"\x05", upto(4), api.ErrRange, 1},
		{"\xac\x02z", upto(299), api.ErrRange, 3},
		{aboveInt, upto(math.MaxInt), api.ErrRange, 10},
		{"", oneBool(), api.ErrShort, 0},
		{"\x02", oneBool(), api.ErrForm, 1},
		{"\x80\x01", oneBool(), api.ErrForm, 2},
		{"\xff", oneBool(), api.ErrForm, 1},
		{"", text(5), api.ErrShort, 0},
		{"\x80", text(5), api.ErrShort, 1},
		{"\x80\x00", text(5), api.ErrForm, 2},
		{"\x02ab", text(1), api.ErrRange, 3},
		{"\x00", text(-1), api.ErrRange, 1},
		{"\x09ab", text(8), api.ErrRange, 3},
		{"\x03ab", text(3), api.ErrShort, 2},
		{"\x01", text(1), api.ErrShort, 0},
		{"\xff\xff\xff\xff\xff\xff\xff\xff\x7fab", text(math.MaxInt), api.ErrShort, 2},
		{"", raw(-1), api.ErrArg, 0},
		{"abc", raw(-1), api.ErrArg, 3},
		{"abc", raw(math.MinInt), api.ErrArg, 3},
		{"", raw(1), api.ErrShort, 0},
		{"abc", raw(4), api.ErrShort, 3},
		{"abc", raw(math.MaxInt), api.ErrShort, 3},
		{"", someInts(5), api.ErrShort, 0},
		{"\x80\x00", someInts(5), api.ErrForm, 2},
		{"\x02\x00\x00", someInts(1), api.ErrRange, 3},
		{"\x00", someInts(-1), api.ErrRange, 1},
		{"\x01", someInts(1), api.ErrShort, 0},
		{"\x03\x0a\x03", someInts(3), api.ErrShort, 0},
		{"\x03\x0a\x80\x00\x03", someInts(3), api.ErrForm, 3},
		{"\x03\x0a\x03\x80", someInts(3), api.ErrShort, 1},
		{"\xff\xff\xff\xff\xff\xff\xff\xff\x7f\x0a", someInts(math.MaxInt), api.ErrShort, 0},
		{"\xff\xff\xff\xff\xff\xff\xff\xff\x7f\x0a\x80\x00", someInts(math.MaxInt), api.ErrForm, 2},
	}
	for _, c := range cases {
		r := Open(c.s)
		if got := c.read.do(r); !tellsNothing(got) || r.Left() != c.left || r.Err() != c.want || r.End() != c.want {
			t.Errorf("%s of %q: %s, %d left, errors %d and %d", c.read.name, c.s, got, r.Left(), r.Err(), r.End())
		}
	}
}

// spoilt has readers that have an error while there is still much that could be read.
func spoilt() map[api.Errno]*Reader {
	rest := "\x01\x01\x01\x01\x01"
	short, form, above, below := Open(rest), Open("\x02"+rest), Open("\x09"+rest), Open(rest)
	short.Raw(len(rest) + 1)
	form.Bool()
	above.Upto(8)
	below.Raw(-1)
	return map[api.Errno]*Reader{api.ErrShort: short, api.ErrForm: form, api.ErrRange: above, api.ErrArg: below}
}

// P3.2
func TestNothingIsReadBehindWhatIsWrong(t *testing.T) {
	for fault := range spoilt() {
		for _, c := range allReads() {
			r := spoilt()[fault]
			left := r.Left()
			for range 3 {
				if got := c.do(r); !tellsNothing(got) || r.Left() != left || r.Err() != fault || r.End() != fault {
					t.Errorf("%s behind error %d: %s, %d left of %d, errors %d and %d", c.name, fault, got, r.Left(), left, r.Err(), r.End())
				}
			}
		}
	}
}

// P3.2
func TestTheFirstErrorStays(t *testing.T) {
	r := Open("\x02\x05")
	r.Bool()
	r.Upto(4)
	r.Raw(-1)
	r.Raw(9)
	r.Num()
	if r.Err() != api.ErrForm || r.Left() != 2 {
		t.Errorf("error %d, %d left", r.Err(), r.Left())
	}
}

// plain reads as the document tells it, of what is left, with the error apart.
type plain struct {
	left  string
	fault api.Errno
}

// number takes a number's bytes, if they are right, by going through every byte that there is.
func (p *plain) number(most uint64) uint64 {
	if p.fault != api.OK {
		return 0
	}
	for n := 0; ; n++ {
		if n >= len(p.left) {
			p.fault = api.ErrShort
			return 0
		}
		if n == 9 && p.left[n] > 1 || n > 0 && p.left[n] == 0 {
			p.fault = api.ErrForm
			return 0
		}
		if p.left[n] > 127 {
			continue
		}
		u := uint64(0)
		for i := n; i >= 0; i-- {
			u = u*128 + uint64(p.left[i])%128
		}
		if u > most {
			p.fault = api.ErrRange
			return 0
		}
		p.left = p.left[n+1:]
		return u
	}
}

func (p *plain) upto(most int) int {
	if most >= 0 {
		return int(p.number(uint64(most)))
	}
	// None may be: it has to be a right one all the same.
	apart := *p
	apart.number(math.MaxUint64)
	if p.fault = apart.fault; p.fault == api.OK {
		p.fault = api.ErrRange
	}
	return 0
}

func (p *plain) oneInt() int {
	u := p.number(math.MaxUint64)
	if u%2 == 1 {
		return -int(u/2) - 1
	}
	return int(u / 2)
}

func (p *plain) oneBool() bool {
	switch {
	case p.fault != api.OK:
	case p.left == "":
		p.fault = api.ErrShort
	case p.left[0] > 1:
		p.fault = api.ErrForm
	default:
		b := p.left[0] == 1
		p.left = p.left[1:]
		return b
	}
	return false
}

func (p *plain) raw(n int) string {
	switch {
	case p.fault != api.OK:
	case n < 0:
		p.fault = api.ErrArg
	case len(p.left) < n:
		p.fault = api.ErrShort
	default:
		s := p.left[:n]
		p.left = p.left[n:]
		return s
	}
	return ""
}

func (p *plain) ints(most int) []int {
	n := p.upto(most)
	l := []int{}
	for len(l) < n && p.fault == api.OK {
		l = append(l, p.oneInt())
	}
	if p.fault != api.OK {
		return nil
	}
	return l
}

// both does one read by r and by the plain reader, and tells both answers.
func both(r *Reader, p *plain, kind, most int) (string, string) {
	switch kind {
	case 0:
		return num().do(r), strconv.FormatUint(p.number(math.MaxUint64), 10)
	case 1:
		return upto(most).do(r), strconv.Itoa(p.upto(most))
	case 2:
		return oneInt().do(r), strconv.Itoa(p.oneInt())
	case 3:
		return oneBool().do(r), strconv.FormatBool(p.oneBool())
	case 4:
		return text(most).do(r), "'" + p.raw(p.upto(most)) + "'"
	case 5:
		return raw(most).do(r), "'" + p.raw(most) + "'"
	default:
		return someInts(most).do(r), listed(p.ints(most))
	}
}

// chance tells numbers below n that look like chance, the same ones at each run.
func chance(seed uint64) func(n int) int {
	return func(n int) int {
		seed = seed*6364136223846793005 + 1442695040888963407
		return int(seed>>33) % n
	}
}

// P3.2, P3.3
func TestReadsAsThePlainReader(t *testing.T) {
	pick := chance(3)
	few := []byte{0, 1, 2, 3, 4, 5, 127, 128, 129, 255}
	for round := range 20000 {
		bytes := make([]byte, pick(24))
		for i := range bytes {
			bytes[i] = few[pick(len(few))]
		}
		r, p := Open(string(bytes)), &plain{left: string(bytes)}
		for range 12 {
			kind, most := pick(7), pick(8)-1
			got, want := both(r, p, kind, most)
			end := p.fault
			if end == api.OK && p.left != "" {
				end = api.ErrForm
			}
			if got != want || r.Left() != len(p.left) || r.Err() != p.fault || r.End() != end {
				t.Fatalf("round %d, kind %d of at most %d of %q: %s, not %s", round, kind, most, bytes, got, want)
			}
		}
	}
}

// P3.2
func TestReadIntsAreTheCallersOwn(t *testing.T) {
	s := plainInts([]int{1, 2}) + plainInts([]int{3})
	r, other := Open(s), Open(s)
	first := r.Ints(2)
	first[0], first[1] = 8, 9
	_ = append(first, 10)
	if second := r.Ints(2); !slices.Equal(second, []int{3}) || !slices.Equal(first, []int{8, 9}) {
		t.Errorf("%v, %v", first, second)
	}
	if again := other.Ints(2); !slices.Equal(again, []int{1, 2}) {
		t.Errorf("%v", again)
	}
}

// P3.3
func TestFail(t *testing.T) {
	for _, fault := range []api.Errno{api.ErrArg, api.ErrForm, api.ErrWord, 99, -1} {
		for _, c := range allReads() {
			r := Open("\x01\x01\x01\x01")
			r.Num()
			r.Fail(fault)
			if got := c.do(r); !tellsNothing(got) || r.Err() != fault || r.End() != fault || r.Left() != 3 {
				t.Errorf("%s behind Fail(%d): %s, error %d, %d left", c.name, fault, got, r.Err(), r.Left())
			}
		}
	}
}

// P3.3
func TestFailTellsTheFirst(t *testing.T) {
	r := Open("\x02")
	r.Fail(api.OK)
	if r.Err() != api.OK || r.Num() != 2 || r.End() != api.OK {
		t.Error("OK is no error")
	}
	r.Fail(api.ErrKind)
	r.Fail(api.ErrLog)
	r.Fail(api.OK)
	r.Num()
	if r.Err() != api.ErrKind || r.End() != api.ErrKind {
		t.Errorf("error %d", r.Err())
	}
	for fault := range spoilt() {
		r := spoilt()[fault]
		r.Fail(api.ErrLog)
		r.Fail(api.OK)
		if r.Err() != fault || r.End() != fault {
			t.Errorf("error %d, not %d", r.Err(), fault)
		}
	}
}

// P3.3
func TestLeftAndEnd(t *testing.T) {
	r := Open("\x05\x02ab\x01")
	steps := []struct {
		read read
		left int
		end  api.Errno
	}{
		{raw(0), 5, api.ErrForm},
		{num(), 4, api.ErrForm},
		{text(2), 1, api.ErrForm},
		{oneBool(), 0, api.OK},
		{raw(0), 0, api.OK},
		{num(), 0, api.ErrShort},
		{raw(0), 0, api.ErrShort},
	}
	for _, c := range steps {
		c.read.do(r)
		// Asked twice: that bytes are left is not the reader's error.
		if r.Left() != c.left || r.End() != c.end || r.End() != c.end || c.left > 0 && r.Err() != api.OK {
			t.Errorf("behind %s: %d left, end %d, error %d", c.read.name, r.Left(), r.End(), r.Err())
		}
	}
}

// P3.3
func TestReaderOfTheEmptyText(t *testing.T) {
	r := Open("")
	if r == nil || r.Left() != 0 || r.Err() != api.OK || r.End() != api.OK {
		t.Fatal("nothing was read, and nothing is left")
	}
	for _, c := range allReads() {
		want := api.ErrShort
		switch c.name {
		case "Raw(0)":
			want = api.OK
		case "Raw(-1)", "Raw(" + strconv.Itoa(math.MinInt) + ")":
			want = api.ErrArg
		}
		r := Open("")
		if got := c.do(r); !tellsNothing(got) || r.Left() != 0 || r.Err() != want || r.End() != want {
			t.Errorf("%s: %s, error %d", c.name, got, r.Err())
		}
	}
}

// P3.3
func TestNilReader(t *testing.T) {
	var r *Reader
	told := func() bool {
		return r.Left() == 0 && r.Err() == api.ErrState && r.End() == api.ErrState
	}
	if !told() {
		t.Error("nil tells another thing than ErrState")
	}
	for _, c := range allReads() {
		if got := c.do(r); !tellsNothing(got) || !told() {
			t.Errorf("%s: %s", c.name, got)
		}
	}
	r.Fail(api.ErrLog)
	r.Fail(api.OK)
	if !told() {
		t.Error("nil has failed")
	}
}

// P3.4
func TestWrittenAndRead(t *testing.T) {
	w := &Writer{}
	for _, u := range numbers() {
		w.Num(u)
	}
	for _, n := range ints() {
		w.Int(n)
		w.Bool(n < 0)
		w.Num(uint64(n & math.MaxInt))
	}
	for _, s := range texts() {
		w.Text(s)
		w.Raw(s)
	}
	for _, l := range lists() {
		w.Ints(l)
	}
	r := Open(w.Bytes())
	for _, u := range numbers() {
		if got := r.Num(); got != u {
			t.Errorf("Num: %d, not %d", got, u)
		}
	}
	for _, n := range ints() {
		if got := r.Int(); got != n {
			t.Errorf("Int: %d, not %d", got, n)
		}
		if r.Bool() != (n < 0) || r.Upto(n&math.MaxInt) != n&math.MaxInt {
			t.Errorf("Bool or Upto behind %d", n)
		}
	}
	for _, s := range texts() {
		if r.Text(len(s)) != s || r.Raw(len(s)) != s {
			t.Errorf("a text of %d bytes", len(s))
		}
	}
	for _, l := range lists() {
		if got := r.Ints(len(l)); !slices.Equal(got, l) {
			t.Errorf("Ints: %v, not %v", got, l)
		}
	}
	if r.End() != api.OK || r.Left() != 0 {
		t.Errorf("end %d, %d left", r.End(), r.Left())
	}
}

// P3.4
func TestMuchIsWrittenAndRead(t *testing.T) {
	const many = 1 << 19
	w := &Writer{}
	for n := range many {
		w.Int(n * n)
		w.Bool(n%3 == 0)
	}
	r := Open(w.Bytes())
	for n := range many {
		if r.Int() != n*n || r.Bool() != (n%3 == 0) {
			t.Fatalf("pair %d", n)
		}
	}
	if r.End() != api.OK {
		t.Errorf("end %d", r.End())
	}
}

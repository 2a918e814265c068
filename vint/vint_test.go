package vint

import (
	"math"
	"strconv"
	"strings"
	"testing"

	"retrace/api"
)

// edges has the numbers at which a byte more begins, and their neighbours.
func edges() []uint64 {
	us := []uint64{0, 1, 2, 42, 300, math.MaxInt64, math.MaxInt64 + 1, math.MaxUint64 - 1, math.MaxUint64}
	for shift := range 64 {
		u := uint64(1) << shift
		us = append(us, u-1, u, u+1)
	}
	x := uint64(1)
	for range 200 {
		x = x*6364136223846793005 + 1442695040888963407
		us = append(us, x, x>>(x&63))
	}
	return us
}

// surroundings has texts that may stand ahead of a number or behind it.
func surroundings() []string {
	return []string{"", "a", "\x00", "\x80", "\xff\xff", "\x80\x00", strings.Repeat("\x80", 12), "caf\xc3\xa9"}
}

// plainBytes has the bytes of u by division alone.
func plainBytes(u uint64) string {
	s := ""
	for u > 127 {
		s += string([]byte{byte(128 + u%128)})
		u /= 128
	}
	return s + string([]byte{byte(u)})
}

func quote(s string) string { return strconv.QuoteToASCII(s) }

func wantGet(t *testing.T, s string, at int, u uint64, next int, fault api.Errno) {
	t.Helper()
	gotU, gotNext, gotFault := Get(s, at)
	if gotU != u || gotNext != next || gotFault != fault {
		t.Errorf("Get(%s, %d) = %d, %d, %d; want %d, %d, %d", quote(s), at, gotU, gotNext, gotFault, u, next, fault)
	}
	n, intNext, intFault := GetInt(s, at)
	if n != Zag(u) || intNext != next || intFault != fault {
		t.Errorf("GetInt(%s, %d) = %d, %d, %d; want %d, %d, %d", quote(s), at, n, intNext, intFault, Zag(u), next, fault)
	}
}

// P1.1
func TestZigCountsOutwards(t *testing.T) {
	table := []struct {
		n int64
		u uint64
	}{
		{0, 0}, {-1, 1}, {1, 2}, {-2, 3}, {2, 4}, {-3, 5}, {3, 6}, {-64, 127}, {64, 128},
		{math.MaxInt32, math.MaxUint32 - 1}, {math.MinInt32, math.MaxUint32},
		{math.MaxInt64, math.MaxUint64 - 1}, {math.MinInt64, math.MaxUint64},
	}
	for _, row := range table {
		if got := Zig(row.n); got != row.u {
			t.Errorf("Zig(%d) = %d; want %d", row.n, got, row.u)
		}
		if got := Zag(row.u); got != row.n {
			t.Errorf("Zag(%d) = %d; want %d", row.u, got, row.n)
		}
	}
	for i := int64(0); i < 1000; i++ {
		if Zig(i) != uint64(2*i) || Zag(uint64(2*i)) != i {
			t.Errorf("%d is not the even one of its pair", i)
		}
		if Zig(-i-1) != uint64(2*i+1) || Zag(uint64(2*i+1)) != -i-1 {
			t.Errorf("%d is not the odd one of its pair", -i-1)
		}
	}
}

// P1.1
func TestZagIsTheWayBack(t *testing.T) {
	for _, u := range edges() {
		if got := Zig(Zag(u)); got != u {
			t.Errorf("Zig(Zag(%d)) = %d", u, got)
		}
		if got := Zag(Zig(int64(u))); got != int64(u) {
			t.Errorf("Zag(Zig(%d)) = %d", int64(u), got)
		}
	}
}

// P1.2
func TestPutHasTheBytesThatAreTold(t *testing.T) {
	table := []struct {
		u uint64
		s string
	}{
		{0, "\x00"}, {1, "\x01"}, {127, "\x7f"}, {128, "\x80\x01"}, {129, "\x81\x01"}, {300, "\xac\x02"},
		{16383, "\xff\x7f"}, {16384, "\x80\x80\x01"}, {math.MaxUint32, "\xff\xff\xff\xff\x0f"},
		{math.MaxInt64, "\xff\xff\xff\xff\xff\xff\xff\xff\x7f"},
		{math.MaxInt64 + 1, "\x80\x80\x80\x80\x80\x80\x80\x80\x80\x01"},
		{math.MaxUint64, "\xff\xff\xff\xff\xff\xff\xff\xff\xff\x01"},
	}
	for _, row := range table {
		for _, ahead := range surroundings() {
			if got := Put(ahead, row.u); got != ahead+row.s {
				t.Errorf("Put(%s, %d) = %s; want %s behind it", quote(ahead), row.u, quote(got), quote(row.s))
			}
		}
		if got := Size(row.u); got != len(row.s) {
			t.Errorf("Size(%d) = %d; want %d", row.u, got, len(row.s))
		}
	}
}

// P1.2
func TestPutAndSizeAgreeWithDivision(t *testing.T) {
	for _, u := range edges() {
		want := plainBytes(u)
		if got := Put("ab", u); got != "ab"+want {
			t.Errorf("Put(%q, %d) = %s; want %s behind it", "ab", u, quote(got), quote(want))
		}
		if got := Size(u); got != len(want) {
			t.Errorf("Size(%d) = %d; want %d", u, got, len(want))
		}
	}
}

// P1.3
func TestGetTellsNumberAndPlaceBehind(t *testing.T) {
	wantGet(t, "\x00", 0, 0, 1, api.OK)
	wantGet(t, "\x00\x00", 0, 0, 1, api.OK)
	wantGet(t, "\x00\x00", 1, 0, 2, api.OK)
	wantGet(t, "\x7f", 0, 127, 1, api.OK)
	wantGet(t, "\x80\x01", 0, 128, 2, api.OK)
	wantGet(t, "\x80\x01", 1, 1, 2, api.OK)
	wantGet(t, "a\xac\x02b", 1, 300, 3, api.OK)
	wantGet(t, "\x80\x80\x01", 0, 16384, 3, api.OK)
}

// P1.3
func TestGetOfTenBytes(t *testing.T) {
	low := strings.Repeat("\x80", 9)
	high := strings.Repeat("\xff", 9)
	wantGet(t, low+"\x01", 0, 1<<63, 10, api.OK)
	wantGet(t, high+"\x01", 0, math.MaxUint64, 10, api.OK)
	wantGet(t, "x"+high+"\x01\x80", 1, math.MaxUint64, 11, api.OK)
	for _, ahead := range []string{low, high} {
		wantGet(t, ahead, 0, 0, 0, api.ErrShort)
		wantGet(t, ahead+"\x00", 0, 0, 0, api.ErrForm)
		for tenth := 2; tenth < 256; tenth++ {
			s := ahead + string([]byte{byte(tenth)})
			// The tenth byte is wrong by itself, whether or not one stands behind it.
			wantGet(t, s, 0, 0, 0, api.ErrForm)
			wantGet(t, s+"\x01", 0, 0, 0, api.ErrForm)
		}
	}
	wantGet(t, high[1:]+"\x7f", 0, math.MaxInt64, 9, api.OK)
	wantGet(t, high[1:]+"\x02", 0, 1<<56-1+2<<56, 9, api.OK)
}

// P1.3
func TestGetOutsideTheText(t *testing.T) {
	for _, s := range []string{"", "\x01", "\x80", "\x80\x00", strings.Repeat("\xff", 11)} {
		for _, at := range []int{math.MinInt, math.MinInt + 1, -11, -2, -1, len(s) + 1, len(s) + 2, math.MaxInt - 1, math.MaxInt} {
			wantGet(t, s, at, 0, 0, api.ErrArg)
		}
	}
}

// P1.3
func TestGetAtTheEndIsShort(t *testing.T) {
	for _, s := range surroundings() {
		wantGet(t, s, len(s), 0, 0, api.ErrShort)
	}
}

// P1.3
func TestGetOfATextThatEnds(t *testing.T) {
	for n := 1; n < 10; n++ {
		for _, digit := range []string{"\x80", "\x81", "\xff"} {
			s := strings.Repeat(digit, n)
			wantGet(t, s, 0, 0, 0, api.ErrShort)
			wantGet(t, "\x01"+s, 1, 0, 0, api.ErrShort)
		}
	}
}

// P1.3
func TestGetOfANeedlessLastByte(t *testing.T) {
	for n := 1; n < 10; n++ {
		for _, digit := range []string{"\x80", "\x81", "\xff"} {
			s := strings.Repeat(digit, n) + "\x00"
			wantGet(t, s, 0, 0, 0, api.ErrForm)
			wantGet(t, "\x01"+s+"\x01", 1, 0, 0, api.ErrForm)
		}
	}
}

// P1.4
func TestPutIntIsPutOfZig(t *testing.T) {
	table := []struct {
		n int64
		s string
	}{
		{0, "\x00"}, {-1, "\x01"}, {1, "\x02"}, {-3, "\x05"}, {63, "\x7e"}, {-64, "\x7f"}, {64, "\x80\x01"}, {-65, "\x81\x01"},
		{math.MaxInt64, "\xfe\xff\xff\xff\xff\xff\xff\xff\xff\x01"},
		{math.MinInt64, "\xff\xff\xff\xff\xff\xff\xff\xff\xff\x01"},
	}
	for _, row := range table {
		if got := PutInt("x", row.n); got != "x"+row.s {
			t.Errorf("PutInt(%q, %d) = %s; want %s behind it", "x", row.n, quote(got), quote(row.s))
		}
		n, next, fault := GetInt("x"+row.s+"y", 1)
		if n != row.n || next != 1+len(row.s) || fault != api.OK {
			t.Errorf("GetInt of %s = %d, %d, %d; want %d", quote(row.s), n, next, fault, row.n)
		}
	}
	for _, u := range edges() {
		if PutInt("x", int64(u)) != Put("x", Zig(int64(u))) {
			t.Errorf("PutInt of %d is not Put of Zig", int64(u))
		}
	}
}

// P1.5
func TestWhatWasPutIsGot(t *testing.T) {
	for _, u := range edges() {
		for _, ahead := range surroundings() {
			for _, behind := range surroundings() {
				s := Put(ahead, u)
				wantGet(t, s+behind, len(ahead), u, len(s), api.OK)
				s = PutInt(ahead, int64(u))
				n, next, fault := GetInt(s+behind, len(ahead))
				if n != int64(u) || next != len(s) || fault != api.OK {
					t.Errorf("GetInt of %d between %s and %s = %d, %d, %d", int64(u), quote(ahead), quote(behind), n, next, fault)
				}
			}
		}
	}
}

// P1.5
func TestNumbersBehindOneAnother(t *testing.T) {
	s := ""
	for _, u := range edges() {
		s = Put(s, u)
	}
	at := 0
	for _, u := range edges() {
		wantGet(t, s, at, u, at+Size(u), api.OK)
		at += Size(u)
	}
	wantGet(t, s, at, 0, 0, api.ErrShort)
}

// P1.5: over all short texts of telling bytes, and those with telling ends of ten bytes and more.
func TestWhatIsGotIsPutAgainAsItWas(t *testing.T) {
	for _, ahead := range []string{"", strings.Repeat("\x80", 7), strings.Repeat("\xff", 8), strings.Repeat("\x81", 9)} {
		eachText("\x00\x01\x02\x03\x3f\x40\x7e\x7f\x80\x81\xfe\xff", 4, func(s string) {
			s = ahead + s
			u, next, fault := Get(s, 0)
			if fault == api.OK && Put("", u) != s[:next] {
				t.Errorf("%s was got as %d, and put as %s", quote(s), u, quote(Put("", u)))
			}
			n, next, fault := GetInt(s, 0)
			if fault == api.OK && PutInt("", n) != s[:next] {
				t.Errorf("%s was got as the int %d, and put as %s", quote(s), n, quote(PutInt("", n)))
			}
		})
	}
}

// eachText tells visit of every text of up to length bytes out of alphabet.
func eachText(alphabet string, length int, visit func(string)) {
	visit("")
	if length == 0 {
		return
	}
	for i := range len(alphabet) {
		eachText(alphabet, length-1, func(s string) { visit(alphabet[i:i+1] + s) })
	}
}

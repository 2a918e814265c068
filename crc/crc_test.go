package crc

import (
	"hash/crc32"
	"math"
	"strconv"
	"strings"
	"testing"

	"retrace/api"
)

// plainSum goes through the bits one by one, as the document tells it.
func plainSum(s string) uint32 {
	register := ^uint32(0)
	for i := 0; i < len(s); i++ {
		register ^= uint32(s[i])
		for range 8 {
			fell := register & 1
			register >>= 1
			if fell == 1 {
				register ^= 0xEDB88320
			}
		}
	}
	return ^register
}

// noise has n bytes that look like chance, the same ones at each call.
func noise(n int, seed uint64) string {
	bytes := make([]byte, n)
	for i := range bytes {
		seed = seed*6364136223846793005 + 1442695040888963407
		bytes[i] = byte(seed >> 56)
	}
	return string(bytes)
}

// texts has short ones, all single bytes, and long ones.
func texts() []string {
	list := []string{
		"", "a", "ab", "abc", "abcd", "abcde", "123456789", "caf\xc3\xa9", "\xff\xff\xff\xff",
		strings.Repeat("\x00", 4), strings.Repeat("\x00", 100), strings.Repeat("\xff", 100), strings.Repeat("retrace ", 500),
	}
	for b := range 256 {
		list = append(list, string([]byte{byte(b)}))
	}
	for n := range 70 {
		list = append(list, noise(n, uint64(n)))
	}
	return append(list, noise(1<<16, 7), noise(1<<20+3, 8))
}

// turn answers s with the bits from the place at on turned that are ones in mask.
func turn(s string, at int, mask uint32) string {
	bytes := []byte(s)
	for i := range 32 {
		if mask>>i&1 == 1 {
			bytes[(at+i)/8] ^= 1 << ((at + i) % 8)
		}
	}
	return string(bytes)
}

// masks has ways of turning bits within 32 in a row, each from the first bit on, of at most width bits.
func masks(width int) []uint32 {
	var list []uint32
	add := func(mask uint32) {
		list = append(list, mask&(1<<width-1)|1)
	}
	for i := range width {
		add(1 << i)
		add(1<<(i+1) - 1)
	}
	x := uint64(width)
	for range 40 {
		x = x*6364136223846793005 + 1442695040888963407
		add(uint32(x >> 32))
	}
	for _, known := range []uint32{0xEDB88320, 0x04C11DB7, 0xDB710641, 0x55555555, 0x80000001, math.MaxUint32} {
		add(known)
	}
	return list
}

// eachTurned hands over every text that is s with some bits turned, all within 32 in a row.
func eachTurned(s string, with func(turned string, at int, mask uint32)) {
	for at := range 8 * len(s) {
		for _, mask := range masks(min(32, 8*len(s)-at)) {
			with(turn(s, at, mask), at, mask)
		}
	}
}

func quote(s string) string { return strconv.QuoteToASCII(s) }

func hex(c uint32) string { return strconv.FormatUint(uint64(c), 16) }

func wantOpen(t *testing.T, s, data string, fault api.Errno) {
	t.Helper()
	if got, e := Open(s); got != data || e != fault {
		t.Errorf("Open(%s) = %s, %d; want %s, %d", quote(s), quote(got), e, quote(data), fault)
	}
}

// P2.1
func TestSumOfKnownTexts(t *testing.T) {
	table := []struct {
		s   string
		sum uint32
	}{
		{"", 0},
		{"123456789", 0xCBF43926},
		{"123456789", 3421780262},
		{"a", 0xE8B7BE43},
		{"abc", 0x352441C2},
		{"\x00", 0xD202EF8D},
		{"\x00\x00\x00\x00", 0x2144DF1C},
		{"\xff\xff\xff\xff", 0xFFFFFFFF},
		{"The quick brown fox jumps over the lazy dog", 0x414FA339},
	}
	for _, row := range table {
		if got := Sum(row.s); got != row.sum {
			t.Errorf("Sum(%s) = %s; want %s", quote(row.s), hex(got), hex(row.sum))
		}
	}
}

// P2.1
func TestSumGoesBitByBit(t *testing.T) {
	for _, s := range texts() {
		if got, want := Sum(s), plainSum(s); got != want {
			t.Errorf("Sum of %d bytes = %s; want %s", len(s), hex(got), hex(want))
		}
		if got, want := Sum(s), crc32.ChecksumIEEE([]byte(s)); got != want {
			t.Errorf("Sum of %d bytes = %s; IEEE's is %s", len(s), hex(got), hex(want))
		}
	}
}

// P2.1
func TestMoreGoesOn(t *testing.T) {
	for _, s := range []string{"", "a", "123456789", noise(40, 3), strings.Repeat("\x00", 9), strings.Repeat("\xff", 9)} {
		for cut := range len(s) + 1 {
			if got, want := More(Sum(s[:cut]), s[cut:]), plainSum(s); got != want {
				t.Errorf("More(Sum(%s), %s) = %s; want %s", quote(s[:cut]), quote(s[cut:]), hex(got), hex(want))
			}
		}
		c := uint32(0)
		for i := range len(s) {
			c = More(c, s[i:i+1])
		}
		if c != plainSum(s) {
			t.Errorf("More byte by byte of %s = %s; want %s", quote(s), hex(c), hex(plainSum(s)))
		}
	}
}

// P2.1: any c is the sum of some bytes, and stays it with nothing behind them.
func TestMoreOfAnySum(t *testing.T) {
	for _, c := range []uint32{0, 1, 2, 0x80000000, 0xEDB88320, 0xCBF43926, 0x7FFFFFFF, math.MaxUint32 - 1, math.MaxUint32} {
		if got := More(c, ""); got != c {
			t.Errorf("More(%s, nothing) = %s", hex(c), hex(got))
		}
		for _, s := range []string{"x", "\x00", "\xff", "abcd", noise(33, uint64(c))} {
			if got, want := More(c, s), crc32.Update(c, crc32.IEEETable, []byte(s)); got != want {
				t.Errorf("More(%s, %s) = %s; want %s", hex(c), quote(s), hex(got), hex(want))
			}
		}
	}
}

// P2.2
func TestBytesLowestFirst(t *testing.T) {
	table := []struct {
		c uint32
		s string
	}{
		{0, "\x00\x00\x00\x00"},
		{1, "\x01\x00\x00\x00"},
		{256, "\x00\x01\x00\x00"},
		{1 << 16, "\x00\x00\x01\x00"},
		{1 << 24, "\x00\x00\x00\x01"},
		{0x04030201, "\x01\x02\x03\x04"},
		{0xCBF43926, "\x26\x39\xf4\xcb"},
		{math.MaxUint32, "\xff\xff\xff\xff"},
	}
	for _, row := range table {
		if got := Bytes(row.c); got != row.s {
			t.Errorf("Bytes(%s) = %s; want %s", hex(row.c), quote(got), quote(row.s))
		}
	}
}

// P2.2
func TestSealPutsTheSumBehind(t *testing.T) {
	table := []struct{ s, seal string }{
		{"", "\x00\x00\x00\x00"},
		{"a", "a\x43\xbe\xb7\xe8"},
		{"123456789", "123456789\x26\x39\xf4\xcb"},
		{"\xff\xff\xff\xff", "\xff\xff\xff\xff\xff\xff\xff\xff"},
	}
	for _, row := range table {
		if got := Seal(row.s); got != row.seal {
			t.Errorf("Seal(%s) = %s; want %s", quote(row.s), quote(got), quote(row.seal))
		}
	}
}

// P2.2
func TestOpenOfSeal(t *testing.T) {
	for _, s := range texts() {
		data, fault := Open(Seal(s))
		if data != s || fault != api.OK {
			t.Errorf("Open of the Seal of %d bytes: %d bytes, %d", len(s), len(data), fault)
		}
		if twice, fault := Open(Seal(Seal(s))); twice != Seal(s) || fault != api.OK {
			t.Errorf("Open of %d bytes sealed twice: %d bytes, %d", len(s), len(twice), fault)
		}
	}
	wantOpen(t, "\x00\x00\x00\x00", "", api.OK)
	wantOpen(t, "123456789\x26\x39\xf4\xcb", "123456789", api.OK)
}

// P2.2
func TestOpenOfTooFewBytes(t *testing.T) {
	for _, s := range []string{"", "a", "ab", "abc", "\x00", "\x00\x00", "\x00\x00\x00", "\xff\xff\xff"} {
		wantOpen(t, s, "", api.ErrShort)
	}
}

// P2.2
func TestOpenOfWhatIsNotSealed(t *testing.T) {
	list := []string{
		"\x00\x00\x00\x01", "\x01\x00\x00\x00", "\xff\xff\xff\xff", "abcd", "abcde", noise(100, 5),
		"123456789\xcb\xf4\x39\x26", // the highest byte first
		"123456789\xd9\xc6\x0b\x34", // not turned round at the end
		"\x26\x39\xf4\xcb123456789", // ahead of the data
		"123456780\x26\x39\xf4\xcb",
		Seal("123456789") + "\x00",
		"\x00" + Seal("123456789"),
	}
	for _, s := range list {
		wantOpen(t, s, "", api.ErrSum)
	}
	seal := Seal("123456789")
	for cut := range len(seal) {
		want := api.ErrSum
		if cut < 4 {
			want = api.ErrShort
		}
		wantOpen(t, seal[:cut], "", want)
	}
}

// P2.3
func TestSumsOfTurnedTextsAreUnlike(t *testing.T) {
	for _, s := range []string{"a", "abc", "abcd", "123456789", strings.Repeat("\x00", 12), strings.Repeat("\xff", 12), noise(20, 11)} {
		sum := Sum(s)
		eachTurned(s, func(turned string, at int, mask uint32) {
			if Sum(turned) == sum {
				t.Errorf("Sum(%s) = Sum(%s): bits turned at %d by %s", quote(turned), quote(s), at, hex(mask))
			}
		})
	}
}

// P2.3: the bits lie in the data, in the sum, or across the border between them.
func TestTurnedSealsAreNotOpened(t *testing.T) {
	for _, s := range []string{"", "a", "abc", "123456789", strings.Repeat("\x00", 8), strings.Repeat("\xff", 8), noise(20, 12)} {
		eachTurned(Seal(s), func(turned string, at int, mask uint32) {
			if data, fault := Open(turned); data != "" || fault != api.ErrSum {
				t.Errorf("Open(%s), the Seal of %s with bits turned at %d by %s: %s, %d", quote(turned), quote(s), at, hex(mask), quote(data), fault)
			}
		})
	}
}

// P2.3: the bound is told for 32 bits; 33 may go unseen, so that the masks above are the right ones.
func TestThirtyThreeBitsMayGoUnseen(t *testing.T) {
	s := noise(20, 13)
	alike := turn(turn(s, 40, 1), 41, 0xEDB88320)
	if alike == s || Sum(alike) != Sum(s) {
		t.Errorf("%s and %s: sums %s, %s", quote(alike), quote(s), hex(Sum(alike)), hex(Sum(s)))
	}
}

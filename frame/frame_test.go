package frame

import (
	"hash/crc32"
	"math"
	"slices"
	"strconv"
	"strings"
	"testing"

	"retrace/api"
)

// plainNumber has the bytes of n by division alone.
func plainNumber(n int) string {
	var bytes []byte
	for n > 127 {
		bytes = append(bytes, byte(n%128)+128)
		n /= 128
	}
	return string(append(bytes, byte(n)))
}

// sealed answers s, and behind it the four bytes of its sum.
func sealed(s string) string {
	c := crc32.ChecksumIEEE([]byte(s))
	return s + string([]byte{byte(c), byte(c >> 8), byte(c >> 16), byte(c >> 24)})
}

// plainPut has the bytes of a frame as the document tells them.
func plainPut(f api.Frame) string {
	return sealed(string([]byte{byte(f.Kind)}) + plainNumber(len(f.Data)) + f.Data)
}

// bytesOf has the bytes of frames, one behind the other.
func bytesOf(frames []api.Frame) string {
	var b strings.Builder
	for _, f := range frames {
		b.WriteString(plainPut(f))
	}
	return b.String()
}

// plainSize tells a number that stands in front of s, and how many bytes it has, by going through all bytes that there are.
func plainSize(s string) (uint64, int, api.Errno) {
	for n := range len(s) {
		if n == 9 && s[n] > 1 || n > 0 && s[n] == 0 {
			return 0, 0, api.ErrForm
		}
		if s[n] > 127 {
			continue
		}
		u := uint64(0)
		for i := n; i >= 0; i-- {
			u = u*128 + uint64(s[i])%128
		}
		return u, n + 1, api.OK
	}
	return 0, 0, api.ErrShort
}

// plainNext tells the frame in front of s, and how many bytes it has.
func plainNext(s string) (api.Frame, int, api.Errno) {
	if s == "" {
		return api.Frame{}, 0, api.ErrShort
	}
	size, digits, fault := plainSize(s[1:])
	switch {
	case fault != api.OK:
		return api.Frame{}, 0, fault
	case size > 1048576:
		return api.Frame{}, 0, api.ErrLong
	case 1+digits+int(size)+4 > len(s):
		return api.Frame{}, 0, api.ErrShort
	}
	f := api.Frame{Kind: int(s[0]), Data: s[1+digits : 1+digits+int(size)]}
	if n := 1 + digits + int(size); sealed(s[:n]) != s[:n+4] {
		return api.Frame{}, 0, api.ErrSum
	}
	return f, 1 + digits + int(size) + 4, api.OK
}

// plainAll tells the frames in front of s, the places at which they begin, and what All has to tell beside them.
func plainAll(s string) ([]api.Frame, []int, int, api.Errno) {
	var frames []api.Frame
	var places []int
	at := 0
	for at < len(s) {
		f, n, fault := plainNext(s[at:])
		if fault != api.OK {
			return frames, places, at, fault
		}
		frames = append(frames, f)
		places = append(places, at)
		at += n
	}
	return frames, places, at, api.OK
}

// noise has n bytes that look like chance, the same ones at each call.
func noise(n int, seed uint64) string {
	bytes := make([]byte, n)
	for i := range bytes {
		seed = seed*6364136223846793005 + 1442695040888963407
		bytes[i] = byte(seed >> 56)
	}
	return string(bytes)
}

// few has frames of all lengths' edges that are short.
func few() []api.Frame {
	return []api.Frame{
		{Kind: 1, Data: "a"}, {}, {Kind: 255}, {Kind: 0, Data: "\x00"}, {Kind: 128, Data: "\x80\xff"}, {Kind: 2, Data: "caf\xc3\xa9"},
		{Kind: 4, Data: plainPut(api.Frame{Kind: 9, Data: "within"})}, {Kind: 127, Data: strings.Repeat("\x00", 127)}, {Kind: 3, Data: noise(128, 5)},
	}
}

// many has frames of every kind, and of lengths up to the limit.
func many() []api.Frame {
	frames := few()
	for kind := range 256 {
		frames = append(frames, api.Frame{Kind: kind, Data: noise(kind%7, uint64(kind))})
	}
	for _, n := range []int{16383, 16384, 1<<20 - 1, 1 << 20} {
		frames = append(frames, api.Frame{Kind: 7, Data: noise(n, uint64(n))})
	}
	return frames
}

// brief tells a text that may be long.
func brief(s string) string {
	if len(s) > 40 {
		return strconv.QuoteToASCII(s[:40]) + " and so on, of " + strconv.Itoa(len(s))
	}
	return strconv.QuoteToASCII(s)
}

func wantPut(t *testing.T, f api.Frame, s string, fault api.Errno) {
	t.Helper()
	if got, e := Put(f); got != s || e != fault {
		t.Errorf("Put of kind %d, %s = %s, %d; want %s, %d", f.Kind, brief(f.Data), brief(got), e, brief(s), fault)
	}
}

func wantNext(t *testing.T, s string, at int, f api.Frame, next int, fault api.Errno) {
	t.Helper()
	got, gotNext, e := Next(s, at)
	if got != f || gotNext != next || e != fault {
		t.Errorf("Next(%s, %d) = %d %s, %d, %d; want %d %s, %d, %d", brief(s), at, got.Kind, brief(got.Data), gotNext, e, f.Kind, brief(f.Data), next, fault)
	}
}

// wantFault wants that Next tells an error and nothing beside it.
func wantFault(t *testing.T, s string, at int, fault api.Errno) {
	t.Helper()
	wantNext(t, s, at, api.Frame{}, 0, fault)
}

// wantAll wants of All and of Each the same frames.
func wantAll(t *testing.T, s string, frames []api.Frame, end int, fault api.Errno) {
	t.Helper()
	got, gotEnd, e := All(s)
	if !slices.Equal(got, frames) || gotEnd != end || e != fault {
		t.Errorf("All(%s) = %d frames, %d, %d; want %d frames, %d, %d", brief(s), len(got), gotEnd, e, len(frames), end, fault)
	}
	told, _ := gone(s)
	if !slices.Equal(told, frames) {
		t.Errorf("Each(%s) goes over %d frames; want %d", brief(s), len(told), len(frames))
	}
}

// gone tells what Each goes over.
func gone(s string) ([]api.Frame, []int) {
	var frames []api.Frame
	var places []int
	for at, f := range Each(s) {
		frames = append(frames, f)
		places = append(places, at)
	}
	return frames, places
}

// P4.1
func TestExample(t *testing.T) {
	wantPut(t, api.Frame{Kind: 1, Data: "a"}, sealed("\x01\x01a"), api.OK)
	wantNext(t, sealed("\x01\x01a"), 0, api.Frame{Kind: 1, Data: "a"}, 7, api.OK)
}

// P4.1
func TestPutHasTheBytesThatAreTold(t *testing.T) {
	wantPut(t, api.Frame{}, sealed("\x00\x00"), api.OK)
	wantPut(t, api.Frame{Kind: 255}, sealed("\xff\x00"), api.OK)
	wantPut(t, api.Frame{Kind: 128, Data: "\x00\xff"}, sealed("\x80\x02\x00\xff"), api.OK)
	wantPut(t, api.Frame{Kind: 2, Data: strings.Repeat("x", 300)}, sealed("\x02\xac\x02"+strings.Repeat("x", 300)), api.OK)
	for _, f := range many() {
		wantPut(t, f, plainPut(f), api.OK)
	}
}

// P4.1
func TestPutOfAKindThatThereIsNot(t *testing.T) {
	tooLong := strings.Repeat("x", 1<<20+1)
	for _, kind := range []int{math.MinInt, -256, -2, -1, 256, 257, 512, math.MaxInt} {
		for _, data := range []string{"", "a", tooLong} {
			wantPut(t, api.Frame{Kind: kind, Data: data}, "", api.ErrArg)
		}
	}
}

// P4.1
func TestPutOfMuchData(t *testing.T) {
	most := strings.Repeat("x", 1<<20)
	for _, kind := range []int{0, 1, 255} {
		wantPut(t, api.Frame{Kind: kind, Data: most}, sealed(string([]byte{byte(kind)})+"\x80\x80\x40"+most), api.OK)
		wantPut(t, api.Frame{Kind: kind, Data: most + "x"}, "", api.ErrLong)
		wantPut(t, api.Frame{Kind: kind, Data: most + most}, "", api.ErrLong)
	}
}

// P4.2
func TestNextTellsFrameAndPlaceBehind(t *testing.T) {
	for _, f := range many() {
		s := plainPut(f)
		wantNext(t, s, 0, f, len(s), api.OK)
	}
}

// P4.2
func TestNextOutsideTheText(t *testing.T) {
	for _, s := range []string{"", "\x01", "\x01\x01", plainPut(api.Frame{Kind: 1, Data: "a"}), bytesOf(few())} {
		for _, at := range []int{math.MinInt, -len(s) - 1, -2, -1, len(s) + 1, len(s) + 2, math.MaxInt - 1, math.MaxInt} {
			wantFault(t, s, at, api.ErrArg)
		}
		wantFault(t, s, len(s), api.ErrShort)
	}
}

// P4.2: over every place, most of which lie within a frame.
func TestNextAtEveryPlace(t *testing.T) {
	s := bytesOf(few())
	for at := range len(s) + 1 {
		f, n, fault := plainNext(s[at:])
		next := 0
		if fault == api.OK {
			next = at + n
		}
		wantNext(t, s, at, f, next, fault)
	}
}

// P4.2
func TestNextOfANumberThatIsWrong(t *testing.T) {
	for _, kind := range []string{"\x00", "\x01", "\x80", "\xff"} {
		for digits := range 10 {
			wantFault(t, kind+strings.Repeat("\xff", digits), 0, api.ErrShort)
		}
		for digits := 1; digits < 10; digits++ {
			wantFault(t, sealed(kind+strings.Repeat("\xff", digits)+"\x00"), 0, api.ErrForm)
			wantFault(t, sealed(kind+strings.Repeat("\x80", digits)+"\x00"), 0, api.ErrForm)
		}
		wantFault(t, kind+strings.Repeat("\x80", 9)+"\x02", 0, api.ErrForm)
		wantFault(t, kind+strings.Repeat("\x80", 12), 0, api.ErrForm)
	}
}

// P4.2: the frame would be a right one, but for its length.
func TestNextOfMuchData(t *testing.T) {
	most := strings.Repeat("x", 1<<20)
	wantNext(t, "ab"+sealed("\x05\x80\x80\x40"+most)+"c", 2, api.Frame{Kind: 5, Data: most}, 2+4+1<<20+4, api.OK)
	wantFault(t, sealed("\x05\x81\x80\x40"+most+"x"), 0, api.ErrLong)
	wantFault(t, sealed("\x05\x80\x80\x80\x01"+most+most), 0, api.ErrLong)
}

// P4.2: that the number is too great is told ahead of how many bytes there are.
func TestNextOfANumberThatIsTooGreat(t *testing.T) {
	table := []string{
		"\x81\x80\x40",                             // 2^20 + 1
		"\xff\xff\xff\xff\x07",                     // 2^31 - 1
		"\xff\xff\xff\xff\x0f",                     // 2^32 - 1
		"\x80\x80\x80\x80\x10",                     // 2^32
		"\x81\x80\x80\x80\x10",                     // 2^32 + 1
		"\xff\xff\xff\xff\xff\xff\xff\xff\x7f",     // 2^63 - 1
		"\x80\x80\x80\x80\x80\x80\x80\x80\x80\x01", // 2^63
		"\xff\xff\xff\xff\xff\xff\xff\xff\xff\x01", // 2^64 - 1
	}
	for _, number := range table {
		for _, behind := range []string{"", "a", "abcd", strings.Repeat("x", 100)} {
			wantFault(t, "\x01"+number+behind, 0, api.ErrLong)
			wantFault(t, "b"+sealed("\x01"+number+behind), 1, api.ErrLong)
		}
	}
	wantFault(t, "\x01\x80\x80\x40", 0, api.ErrShort)
	wantFault(t, "\x01\x80\x80\x40abcd", 0, api.ErrShort)
}

// P4.2: the sum is wrong or not there at all, yet that there are too few bytes is told first.
func TestNextOfTooFewBytes(t *testing.T) {
	for _, f := range few() {
		s := plainPut(f)
		for cut := range len(s) {
			wantFault(t, s[:cut], 0, api.ErrShort)
			wantFault(t, "x"+s[:cut], 1, api.ErrShort)
		}
		turned := s[:len(s)-4] + "\x00\x00\x00\x00"
		wantFault(t, turned, 0, api.ErrSum)
		wantFault(t, turned[:len(s)-1], 0, api.ErrShort)
	}
	// Bytes of the sum are no bytes of the data, nor the other way round.
	wantFault(t, "\x01\x03a\x00\x00\x00", 0, api.ErrShort)
	wantFault(t, "\x01\x04abcd", 0, api.ErrShort)
}

// P4.2
func TestNextOfAnotherSum(t *testing.T) {
	s := plainPut(api.Frame{Kind: 1, Data: "ab"})
	for kind := range 256 {
		if kind != 1 {
			wantFault(t, string([]byte{byte(kind)})+s[1:], 0, api.ErrSum)
		}
	}
	seal := s[4:]
	wrong := []string{
		seal[3:] + seal[2:3] + seal[1:2] + seal[:1],
		"\x00\x00\x00\x00",
		"\xff\xff\xff\xff",
		sealed("ab")[2:],
		sealed("\x02ab")[3:],
		sealed("\x01ab")[3:],
	}
	for i := range 4 {
		wrong = append(wrong, seal[:i]+string([]byte{seal[i] ^ 1})+seal[i+1:], seal[:i]+string([]byte{seal[i] ^ 128})+seal[i+1:])
	}
	for _, other := range wrong {
		wantFault(t, s[:4]+other, 0, api.ErrSum)
		wantFault(t, s+s[:4]+other+s, len(s), api.ErrSum)
	}
	// The sum is that of the frame's bytes alone, not of those ahead of it.
	wantFault(t, sealed("x"+s[:4]), 1, api.ErrSum)
}

// chance tells numbers below n that look like chance, the same ones at each run.
func chance(seed uint64) func(n int) int {
	return func(n int) int {
		seed = seed*6364136223846793005 + 1442695040888963407
		return int(seed>>33) % n
	}
}

// P4.2, P4.3: frames, some of them spoilt, with some bytes between.
func TestAsThePlainOnes(t *testing.T) {
	pick := chance(4)
	telling := []byte{0, 1, 2, 3, 5, 127, 128, 129, 255}
	for range 5000 {
		var bytes []byte
		for range pick(5) {
			f := api.Frame{Kind: pick(256), Data: noise(pick(9), uint64(pick(1000)))}
			bytes = append(bytes, plainPut(f)...)
			if pick(8) == 0 {
				bytes = append(bytes, telling[pick(len(telling))])
			}
			if pick(8) == 0 {
				bytes[pick(len(bytes))] = telling[pick(len(telling))]
			}
		}
		s := string(bytes)
		frames, places, end, fault := plainAll(s)
		wantAll(t, s, frames, end, fault)
		if _, got := gone(s); !slices.Equal(got, places) {
			t.Errorf("Each(%s) at %v; want %v", brief(s), got, places)
		}
		at := pick(len(s) + 1)
		f, n, fault := plainNext(s[at:])
		if fault != api.OK {
			wantFault(t, s, at, fault)
		} else {
			wantNext(t, s, at, f, at+n, api.OK)
		}
	}
}

// P4.3
func TestAllOfNothing(t *testing.T) {
	wantAll(t, "", nil, 0, api.OK)
	if Each("") == nil {
		t.Error("a going over that has nothing to tell is a function")
	}
	for at := range Each("") {
		t.Errorf("a frame at %d of nothing", at)
	}
}

// P4.3
func TestAllOfFrames(t *testing.T) {
	for n := range few() {
		s := bytesOf(few()[:n])
		wantAll(t, s, few()[:n], len(s), api.OK)
	}
	s := bytesOf(many())
	wantAll(t, s, many(), len(s), api.OK)
}

// P4.3: what was taken is told beside the error.
func TestAllTellsWhyItEnds(t *testing.T) {
	other := plainPut(api.Frame{Kind: 3, Data: "z"})
	table := []struct {
		behind string
		fault  api.Errno
	}{
		{"\x01", api.ErrShort},
		{"\x01\x80", api.ErrShort},
		{"\x01\x05abc", api.ErrShort},
		{"\x01\x80\x00" + other, api.ErrForm},
		{"\x01" + strings.Repeat("\xff", 10) + other, api.ErrForm},
		{"\x01\x81\x80\x40" + other, api.ErrLong},
		{"\x01\x01abcde" + other, api.ErrSum},
		{"\x00\x00\x00\x00\x00\x00", api.ErrSum},
	}
	for _, row := range table {
		for n := range few() {
			s := bytesOf(few()[:n])
			wantAll(t, s+row.behind, few()[:n], len(s), row.fault)
		}
	}
}

// P4.3
func TestEachTellsThePlaces(t *testing.T) {
	var want []int
	s := ""
	for _, f := range many() {
		want = append(want, len(s))
		s += plainPut(f)
	}
	for _, behind := range []string{"", "\x01", "\x01\x01abcde"} {
		if _, places := gone(s + behind); !slices.Equal(places, want) {
			t.Errorf("with %s behind: %v; want %v", brief(behind), places, want)
		}
	}
}

// P4.3
func TestEachIsLeftEarlyAndGoneOverAgain(t *testing.T) {
	frames := few()
	each := Each(bytesOf(frames) + "\x01")
	for most := range frames {
		var got []api.Frame
		for _, f := range each {
			got = append(got, f)
			if len(got) > most {
				break
			}
		}
		if !slices.Equal(got, frames[:most+1]) {
			t.Errorf("left behind %d frames: %d others", most+1, len(got))
		}
	}
	// One within the other: each remembers its own place.
	for at, f := range each {
		n := 0
		for within, g := range each {
			if within == at && g != f || g != frames[n] {
				t.Errorf("frame %d within the going over at %d: kind %d, %s", n, at, g.Kind, brief(g.Data))
			}
			n++
		}
		if n != len(frames) {
			t.Errorf("%d frames within the going over at %d", n, at)
		}
	}
}

// P4.3
func TestAllIsTheCallersOwn(t *testing.T) {
	s := bytesOf(few())
	first, _, _ := All(s)
	clear(first)
	_ = append(first, api.Frame{Kind: 9})
	wantAll(t, s, few(), len(s), api.OK)
}

// P4.4
func TestWhatWasPutIsTold(t *testing.T) {
	around := []string{"", "a", "\x00", "\x80", "\xff\xff\xff\xff\xff", "\x01\x01", plainPut(api.Frame{Kind: 2, Data: "b"}), noise(300, 1)}
	for _, f := range many() {
		for _, ahead := range around {
			for _, behind := range around {
				if len(f.Data) > 20000 && len(ahead)+len(behind) > 3 {
					continue
				}
				s, fault := Put(f)
				if fault != api.OK {
					t.Errorf("Put of kind %d, %s: error %d", f.Kind, brief(f.Data), fault)
				}
				wantNext(t, ahead+s+behind, len(ahead), f, len(ahead)+len(s), api.OK)
			}
		}
	}
}

// P4.4: over all texts of telling bytes with a sum behind them that fits.
func TestWhatIsToldIsPutAgainAsItWas(t *testing.T) {
	told := 0
	eachText("\x00\x01\x02\x03\x7f\x80\x81\xff", 5, func(s string) {
		for _, behind := range []string{"", "x"} {
			s := sealed(s) + behind
			f, next, fault := Next(s, 0)
			if fault != api.OK {
				continue
			}
			told++
			wantPut(t, f, s[:next], api.OK)
		}
	})
	if told < 2*8*(1+8+64+512) {
		t.Errorf("%d frames were told", told)
	}
}

// eachText tells visit of every text of up to length bytes out of alphabet.
func eachText(alphabet string, length int, visit func(string)) {
	visit("")
	if length == 0 {
		return
	}
	for i := range len(alphabet) {
		eachText(alphabet, length-1, func(s string) { visit(alphabet[i:i+1] + s) })
	}
}

// P4.5
func TestAllOfWhatIsCutOff(t *testing.T) {
	frames := few()
	s := bytesOf(frames)
	end := 0
	for whole, f := range frames {
		wantAll(t, s[:end], frames[:whole], end, api.OK)
		next := end + len(plainPut(f))
		for cut := end + 1; cut < next; cut++ {
			wantAll(t, s[:cut], frames[:whole], end, api.ErrShort)
		}
		end = next
	}
	wantAll(t, s, frames, end, api.OK)
}

// turn answers s with the bits from the place at on turned that are ones in mask.
func turn(s string, at int, mask uint32) string {
	bytes := []byte(s)
	for i := range 32 {
		if mask>>i&1 == 1 {
			bytes[(at+i)/8] ^= 1 << ((at + i) % 8)
		}
	}
	return string(bytes)
}

// masks has ways of turning bits within 32 in a row, each from the first bit on, of at most width bits.
func masks(width int) []uint32 {
	list := []uint32{1}
	for _, mask := range []uint32{0xEDB88320, 0x04C11DB7, 0xDB710641, 0x55555555, 0x80000001, 0xDEADBEEF, math.MaxUint32} {
		list = append(list, mask&(1<<width-1)|1)
	}
	return append(list, 1<<(width-1)|1)
}

// P4.6: over every place of the data and the sum of every frame.
func TestAllOfTurnedBits(t *testing.T) {
	frames := few()
	s := bytesOf(frames)
	begin := 0
	for n, f := range frames {
		next := begin + len(plainPut(f))
		for at := 8 * (next - 4 - len(f.Data)); at < 8*next; at++ {
			for _, mask := range masks(min(32, 8*next-at)) {
				wantAll(t, turn(s, at, mask), frames[:n], begin, api.ErrSum)
			}
		}
		begin = next
	}
}

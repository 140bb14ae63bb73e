package roll_test

import (
	"math"
	"math/rand"
	"strings"
	"testing"

	"muniment/api"
	"muniment/roll"
)

// ofNone is the digest of no bytes.
const ofNone = 130087904

// some is a text of so many bytes.
func some(r *rand.Rand, n int) string {
	b := make([]byte, n)
	r.Read(b)
	return string(b)
}

// window is the last 64 of some bytes, with bytes 0 ahead if there are fewer.
func window(s string) string {
	if len(s) >= 64 {
		return s[len(s)-64:]
	}
	return strings.Repeat("\x00", 64-len(s)) + s
}

// reckoned is the digest by the chapter's words.
func reckoned(s string) uint32 {
	low, high := 0, 0
	for i, w := range []byte(window(s)) {
		low += int(w) + 31
		high += (i + 1) * (int(w) + 31)
	}
	return uint32(low%65536*65536 + high%65536)
}

// sums are a digest's low sum and its high one.
func sums(digest uint32) (int, int) { return int(digest / 65536), int(digest % 65536) }

// changed is a text that has another byte at a place.
func changed(s string, at int, b byte) string { return s[:at] + string([]byte{b}) + s[at+1:] }

// edges are numbers of bytes around one window, and around several.
func edges() []int {
	return []int{0, 1, 2, 31, 32, 62, 63, 64, 65, 66, 127, 128, 129, 191, 192, 193, 640}
}

// texts are some of each number of bytes at the edges: of all bytes alike, and of any.
func texts() []string {
	r := rand.New(rand.NewSource(1))
	l := []string{}
	for _, n := range edges() {
		for _, b := range []string{"\x00", "\x01", "\x1f", "\x7f", "\x80", "\xe0", "\xff"} {
			l = append(l, strings.Repeat(b, n))
		}
		l = append(l, some(r, n), some(r, n), some(r, n))
	}
	return l
}

func TestWindow(t *testing.T) {
	if roll.Window != 64 || roll.Offset != 31 {
		t.Errorf("a window of %d, with %d added", roll.Window, roll.Offset)
	}
}

func TestExamples(t *testing.T) {
	for _, x := range []struct {
		s         string
		low, high int
		want      uint32
	}{{"", 1984, 64480, 0x7c0fbe0}, {"", 1984, 64480, ofNone}, {"\x01", 1985, 64544, 130153504}} {
		got := roll.Of(x.s)
		if low, high := sums(got); low != x.low || high != x.high || got != x.want {
			t.Errorf("Of(%q) is %d (%d and %d), want %d", x.s, got, low, high, x.want)
		}
	}
}

// TestByHand asks digests that were reckoned without a program: of bytes at the window's two ends, and of sums that wrap.
func TestByHand(t *testing.T) {
	for _, x := range []struct {
		s         string
		low, high int
	}{
		{"\x01" + strings.Repeat("\x00", 63), 1985, 64481},
		{"\x01" + strings.Repeat("\x00", 64), 1984, 64480},
		{"\x00\x01", 1985, 64544},
		{"\x01\x00", 1985, 64543},
		{"\x10", 2000, 65504},
		{"\x11", 2001, 32},
		{"\xff", 2239, 15264},
		{strings.Repeat("\xff", 64), 18304, 5056},
		{strings.Repeat("\xff", 65), 18304, 5056},
	} {
		if low, high := sums(roll.Of(x.s)); low != x.low || high != x.high {
			t.Errorf("Of(%q) has the sums %d and %d, want %d and %d", x.s, low, high, x.low, x.high)
		}
	}
}

func TestOf(t *testing.T) {
	for _, s := range texts() {
		if got, want := roll.Of(s), reckoned(s); got != want {
			t.Fatalf("Of(%q) is %d, want %d", s, got, want)
		}
	}
}

func TestOfEachByteAndEachTwo(t *testing.T) {
	for a := range 256 {
		if s := string([]byte{byte(a)}); roll.Of(s) != reckoned(s) {
			t.Fatalf("Of(%q) is %d, want %d", s, roll.Of(s), reckoned(s))
		}
		for b := range 256 {
			if s := string([]byte{byte(a), byte(b)}); roll.Of(s) != reckoned(s) {
				t.Fatalf("Of(%q) is %d, want %d", s, roll.Of(s), reckoned(s))
			}
		}
	}
}

// TestBytesNotRunes asks texts that would be others if they were gone through by their runes.
func TestBytesNotRunes(t *testing.T) {
	for _, s := range []string{"é", "日本", "\xff\xfe", "a\x80b", "\xe6\x97", "\U0001f600"} {
		r := roll.New()
		r.Write(s)
		if roll.Of(s) != reckoned(s) || r.Digest() != reckoned(s) {
			t.Errorf("Of(%q) is %d, a roll's digest %d, want %d", s, roll.Of(s), r.Digest(), reckoned(s))
		}
	}
}

func TestGreatTexts(t *testing.T) {
	r := rand.New(rand.NewSource(2))
	for _, n := range []int{65535, 65536, 65537, api.MaxData, api.MaxData + 1, api.MaxPack} {
		s := some(r, n)
		if got, want := roll.Of(s), reckoned(s); got != want {
			t.Errorf("Of %d bytes is %d, want %d", n, got, want)
		}
	}
}

func TestNew(t *testing.T) {
	r := roll.New()
	if r == nil {
		t.Fatal("New is nil")
	}
	if d := r.Digest(); d != ofNone {
		t.Errorf("the digest of a new roll is %d", d)
	}
	r.Write("")
	if d := r.Digest(); d != ofNone {
		t.Errorf("the digest of a roll that took no byte is %d", d)
	}
}

// TestAdd asks the digest behind each byte.
func TestAdd(t *testing.T) {
	for _, s := range texts() {
		r := roll.New()
		for i := range len(s) {
			r.Add(s[i])
			if got, want := r.Digest(), reckoned(s[:i+1]); got != want {
				t.Fatalf("behind %q it is %d, want %d", s[:i+1], got, want)
			}
		}
	}
}

func TestDigestChangesNothing(t *testing.T) {
	s := some(rand.New(rand.NewSource(3)), 200)
	quiet, asked := roll.New(), roll.New()
	for i := range len(s) {
		quiet.Add(s[i])
		asked.Add(s[i])
		for range 3 {
			if got, want := asked.Digest(), reckoned(s[:i+1]); got != want {
				t.Fatalf("asked again, behind %d bytes, it is %d, want %d", i+1, got, want)
			}
		}
	}
	if quiet.Digest() != asked.Digest() {
		t.Error("a roll that was asked has another digest")
	}
}

func TestNil(t *testing.T) {
	var r *roll.Roll
	for range 2 {
		if d := r.Digest(); d != 0 {
			t.Errorf("the digest of a nil roll is %d", d)
		}
		r.Add(1)
		r.Write("")
		r.Write(strings.Repeat("abc", 100))
	}
	if d := roll.Of(""); d != ofNone {
		t.Errorf("behind the calls on a nil roll Of nothing is %d", d)
	}
}

// TestMadeOtherwise asks only that calls on a roll that New has not made end.
func TestMadeOtherwise(t *testing.T) {
	r := &roll.Roll{}
	for range 3 {
		r.Write(strings.Repeat("\xff", 65))
		r.Add(0)
		r.Digest()
	}
}

func TestRollsDoNotSeeOneAnother(t *testing.T) {
	one, other := roll.New(), roll.New()
	took, tookToo := "", ""
	r := rand.New(rand.NewSource(4))
	for range 300 {
		s := some(r, r.Intn(5))
		if r.Intn(2) == 0 {
			one.Write(s)
			took += s
		} else {
			other.Write(s)
			tookToo += s
		}
		roll.Of(s)
		if one.Digest() != reckoned(took) || other.Digest() != reckoned(tookToo) {
			t.Fatalf("behind %d and %d bytes: %d and %d", len(took), len(tookToo), one.Digest(), other.Digest())
		}
	}
	if d := roll.New().Digest(); d != ofNone {
		t.Errorf("the digest of a roll made behind others is %d", d)
	}
}

// TestWindowAlone asks P8.2: what stands ahead of the last 64 bytes is not seen, and the foremost of these is.
func TestWindowAlone(t *testing.T) {
	r := rand.New(rand.NewSource(5))
	for range 50 {
		last := some(r, 64)
		want := reckoned(last)
		for _, n := range edges() {
			if got := roll.Of(some(r, n) + last); got != want {
				t.Fatalf("with %d bytes ahead it is %d, want %d", n, got, want)
			}
			if s := some(r, n) + changed(last, 0, last[0]+1); roll.Of(s) == want {
				t.Fatalf("with %d bytes ahead, the foremost byte of the window is not seen", n)
			}
		}
	}
}

// TestEveryCutInTwo asks P8.2.
func TestEveryCutInTwo(t *testing.T) {
	for _, s := range texts() {
		if len(s) > 193 {
			continue
		}
		want := reckoned(s)
		for cut := range len(s) + 1 {
			r := roll.New()
			r.Write(s[:cut])
			r.Write(s[cut:])
			if got := r.Digest(); got != want {
				t.Fatalf("%q, cut behind %d bytes, has %d, want %d", s, cut, got, want)
			}
		}
	}
}

// TestAnyPieces asks P8.2 of bytes added one by one, and written in pieces, also without bytes.
func TestAnyPieces(t *testing.T) {
	r := rand.New(rand.NewSource(6))
	for range 200 {
		x, took := roll.New(), ""
		for range 30 {
			s := some(r, []int{0, 1, 1, 3, 63, 64, 65, 128, r.Intn(300)}[r.Intn(9)])
			if len(s) == 1 {
				x.Add(s[0])
			} else {
				x.Write(s)
			}
			took += s
			if got := x.Digest(); got != reckoned(took) || got != roll.Of(took) {
				t.Fatalf("behind %d bytes it is %d, Of is %d, want %d", len(took), got, roll.Of(took), reckoned(took))
			}
		}
	}
}

// TestOneByteUnlike asks P8.3 at every place of a window and of every other byte.
func TestOneByteUnlike(t *testing.T) {
	r := rand.New(rand.NewSource(7))
	for _, s := range []string{window(""), strings.Repeat("\xff", 64), strings.Repeat("\x1f", 64), some(r, 64), some(r, 64)} {
		of := roll.Of(s)
		for at := range len(s) {
			for b := range 256 {
				other := changed(s, at, byte(b))
				if alike := roll.Of(other) == of; alike != (other == s) {
					t.Fatalf("%q and %q: alike is %v", s, other, alike)
				}
			}
		}
	}
}

// TestBytesZero asks P8.3: of bytes 0 alone, and of such bytes ahead of others.
func TestBytesZero(t *testing.T) {
	r := roll.New()
	for n := range 300 {
		if got := roll.Of(strings.Repeat("\x00", n)); got != ofNone || r.Digest() != ofNone {
			t.Fatalf("Of %d bytes 0 is %d, a roll's digest %d", n, got, r.Digest())
		}
		if got := roll.Of(strings.Repeat("\x00", n) + "ab"); got != roll.Of("ab") {
			t.Fatalf("with %d bytes 0 ahead it is %d", n, got)
		}
		r.Add(0)
	}
	r.Write(strings.Repeat("\xff", 100))
	for n := range 65 {
		if is := r.Digest() == ofNone; is != (n == 64) {
			t.Fatalf("behind other bytes and %d bytes 0 the digest is %d", n, r.Digest())
		}
		r.Add(0)
	}
}

// TestRolling asks P8.4 of the digests alone.
func TestRolling(t *testing.T) {
	modulo := func(n int) int { return (n%65536 + 65536) % 65536 }
	random := rand.New(rand.NewSource(8))
	s := some(random, 5000) + strings.Repeat("\xff", 200) + strings.Repeat("\x00", 200) + strings.Repeat("\xff\x00", 200)
	r := roll.New()
	for i := range len(s) {
		low, high := sums(r.Digest())
		a, b := int(window(s[:i])[0]), int(s[i])
		r.Add(s[i])
		nextLow, nextHigh := sums(r.Digest())
		if nextLow != modulo(low+b-a) || nextHigh != modulo(high-low+64*(b+31)) {
			t.Fatalf("byte %d: %d in, %d out: from %d and %d to %d and %d", i, b, a, low, high, nextLow, nextHigh)
		}
	}
}

func TestOnesExamples(t *testing.T) {
	for _, x := range []struct {
		n    uint32
		want int
	}{{7, 3}, {6, 0}, {math.MaxUint32, 32}, {0, 0}, {1, 1}, {5, 1}, {0xb, 2}, {math.MaxInt32, 31}, {1 << 31, 0}, {math.MaxUint32 - 1, 0}} {
		if got := roll.Ones(x.n); got != x.want {
			t.Errorf("Ones(%d) is %d, want %d", x.n, got, x.want)
		}
	}
}

// TestOnes asks each number of ones, with a 0 ahead of them and whatever bits ahead of that.
func TestOnes(t *testing.T) {
	r := rand.New(rand.NewSource(9))
	for ones := range 32 {
		lowest := uint32(1)<<ones - 1
		for range 100 {
			n := uint32(uint64(r.Uint32())<<(ones+1)) | lowest
			if got := roll.Ones(n); got != ones {
				t.Fatalf("Ones(%b) is %d, want %d", n, got, ones)
			}
		}
		if n := math.MaxUint32 - 1<<ones; roll.Ones(uint32(n)) != ones {
			t.Errorf("Ones(%b) is %d, want %d", n, roll.Ones(uint32(n)), ones)
		}
	}
}

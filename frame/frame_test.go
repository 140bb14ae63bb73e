package frame_test

import (
	"encoding/binary"
	"hash/crc32"
	"math"
	"math/rand"
	"slices"
	"strings"
	"testing"

	"muniment/api"
	"muniment/frame"
)

func someBytes(seed int64, n int) string {
	b := make([]byte, n)
	rand.New(rand.NewSource(seed)).Read(b)
	return string(b)
}

// reference is a frame made by the library's means, of a payload of any length.
func reference(payload string) string {
	length := binary.BigEndian.AppendUint32(nil, uint32(len(payload)))
	crc := crc32.Update(crc32.ChecksumIEEE(length), crc32.IEEETable, []byte(payload))
	return string(binary.BigEndian.AppendUint32(length, crc)) + payload
}

func framed(t *testing.T, payload string) string {
	t.Helper()
	s, e := frame.Frame(payload)
	if e != api.OK {
		t.Fatalf("Frame of %d bytes: %v", len(payload), e)
	}
	return s
}

// payloads are ordinary ones, and those in which a length's or a checksum's bytes could be mistaken.
func payloads() []string {
	l := []string{"", "a", "ab", "\x00", "\xff", "123456789", "\x00\x00\x00\x00", "\xff\xff\xff\xff", strings.Repeat("\x00", 8),
		reference(""), reference("inner"), reference("a") + reference("b"), someBytes(1, 255), someBytes(2, 256), someBytes(3, 65536)}
	for n := range 40 {
		l = append(l, someBytes(int64(n), n))
	}
	return l
}

// noFrames are bytes at whose front no frame stands.
func noFrames() []string {
	turned := []byte(reference("turned"))
	turned[len(turned)-1] ^= 0x80
	return []string{"", "x", "xy", strings.Repeat("\x00", 7), strings.Repeat("\x00", 8), strings.Repeat("\xff", 8), strings.Repeat("\xff", 100),
		reference("cut")[:10], reference("")[:7], string(turned), string(turned) + reference("behind"), "x" + reference("behind")}
}

func checkNone(t *testing.T, what, s string) {
	t.Helper()
	if p, rest, e := frame.Unframe(s); p != "" || rest != "" || e != api.ErrForm {
		t.Errorf("%s: Unframe answers %d and %d bytes, %v; want ErrForm", what, len(p), len(rest), e)
	}
	if l, whole := frame.All(s); len(l) != 0 || whole != 0 {
		t.Errorf("%s: All answers %d payloads, %d; want none", what, len(l), whole)
	}
}

func checkAll(t *testing.T, what, s string, want []string, whole int) {
	t.Helper()
	if l, n := frame.All(s); !slices.Equal(l, want) || n != whole {
		t.Errorf("%s: All answers %d payloads, %d; want %d, %d", what, len(l), n, len(want), whole)
	}
}

// P3.1

func TestCrcExamples(t *testing.T) {
	for _, c := range []struct {
		in   string
		want uint32
	}{{"", 0}, {"a", 0xe8b7be43}, {"123456789", 0xcbf43926}, {"\x00\x00\x00\x00", 0x2144df1c}} {
		if n := frame.Crc(c.in); n != c.want {
			t.Errorf("Crc(%q): %x, want %x", c.in, n, c.want)
		}
	}
	if n := frame.On(frame.Crc("12345"), "6789"); n != 0xcbf43926 {
		t.Errorf("On(Crc(12345), 6789): %x", n)
	}
}

func TestCrcOfEachByte(t *testing.T) {
	for a := range 256 {
		for b := range 256 {
			s := string([]byte{byte(a), byte(b)})
			if n, want := frame.Crc(s), crc32.ChecksumIEEE([]byte(s)); n != want {
				t.Fatalf("Crc(%x): %x, want %x", s, n, want)
			}
		}
	}
}

func TestCrcOfManyLengths(t *testing.T) {
	for n := range 300 {
		for _, s := range []string{someBytes(int64(n), n), strings.Repeat("\x00", n), strings.Repeat("\xff", n)} {
			if got, want := frame.Crc(s), crc32.ChecksumIEEE([]byte(s)); got != want {
				t.Errorf("Crc of %d bytes: %x, want %x", n, got, want)
			}
		}
	}
}

// On hangs on its two arguments alone, so it answers for any number, whether or not it was asked for that one ahead.
func TestOnAnyNumber(t *testing.T) {
	numbers := []uint32{0, 1, 0x80000000, 0xedb88320, math.MaxInt32, math.MaxUint32, math.MaxUint32 - 1}
	r := rand.New(rand.NewSource(1))
	for range 50 {
		numbers = append(numbers, r.Uint32())
	}
	for _, crc := range numbers {
		if n := frame.On(crc, ""); n != crc {
			t.Errorf("On(%x, nothing): %x", crc, n)
		}
		for _, s := range []string{"a", "\x00", "\xff\xff\xff\xff", someBytes(int64(crc), 100)} {
			want := crc32.Update(crc, crc32.IEEETable, []byte(s))
			if n := frame.On(crc, s); n != want || n != frame.On(crc, s) {
				t.Errorf("On(%x, %x): %x, want %x", crc, s, n, want)
			}
		}
	}
}

func TestFrameExamples(t *testing.T) {
	if s, e := frame.Frame(""); s != "\x00\x00\x00\x00\x21\x44\xdf\x1c" || e != api.OK {
		t.Errorf("Frame of nothing: %x, %v", s, e)
	}
	if p, rest, e := frame.Unframe(framed(t, "ab") + "x"); p != "ab" || rest != "x" || e != api.OK {
		t.Errorf("Unframe of a frame of ab, and x: %q, %q, %v", p, rest, e)
	}
	if p, rest, e := frame.Unframe(""); p != "" || rest != "" || e != api.ErrForm {
		t.Errorf("Unframe of nothing: %q, %q, %v", p, rest, e)
	}
	checkAll(t, "a frame of a, one of nothing, and xy", framed(t, "a")+framed(t, "")+"xy", []string{"a", ""}, 17)
}

func TestFrameIsHeadAndPayload(t *testing.T) {
	if frame.Head != 8 {
		t.Errorf("Head is %d", frame.Head)
	}
	for _, p := range payloads() {
		if s, want := framed(t, p), reference(p); s != want || len(s) != frame.Head+len(p) {
			t.Errorf("Frame of %d bytes: %x.., want %x..", len(p), s[:frame.Head], want[:frame.Head])
		}
	}
}

func TestAllOfNoFrames(t *testing.T) {
	for i, s := range noFrames() {
		checkNone(t, "no frame "+string(rune('a'+i)), s)
	}
}

// P3.2

func TestOnGoesOn(t *testing.T) {
	whole := someBytes(4, 200)
	for cut := range len(whole) + 1 {
		if n := frame.On(frame.Crc(whole[:cut]), whole[cut:]); n != frame.Crc(whole) {
			t.Errorf("cut at %d: %x, want %x", cut, n, frame.Crc(whole))
		}
	}
	n := frame.Crc("")
	for i := range len(whole) {
		n = frame.On(n, whole[i:i+1])
	}
	if n != frame.Crc(whole) {
		t.Errorf("byte by byte: %x, want %x", n, frame.Crc(whole))
	}
}

func TestUnframeWithAnythingBehind(t *testing.T) {
	for _, p := range payloads() {
		for _, behind := range append(noFrames(), reference(""), reference("more"), someBytes(5, 100)) {
			if got, rest, e := frame.Unframe(framed(t, p) + behind); got != p || rest != behind || e != api.OK {
				t.Errorf("Unframe of a frame of %d bytes and %d: %d and %d bytes, %v", len(p), len(behind), len(got), len(rest), e)
			}
		}
	}
}

func TestAllWithAnythingBehind(t *testing.T) {
	r := rand.New(rand.NewSource(6))
	for range 100 {
		s, want := "", []string(nil)
		for range r.Intn(20) {
			p := someBytes(r.Int63(), r.Intn(50)*r.Intn(3))
			s += framed(t, p)
			want = append(want, p)
		}
		for _, behind := range noFrames() {
			checkAll(t, "frames and what is none", s+behind, want, len(s))
		}
	}
}

func TestAllOfManyFrames(t *testing.T) {
	const count = 100000
	s := strings.Repeat(framed(t, "")+framed(t, "x"), count/2)
	l, whole := frame.All(s)
	if len(l) != count || whole != len(s) || l[0] != "" || l[count-1] != "x" {
		t.Errorf("All of %d frames: %d payloads, %d bytes of %d", count, len(l), whole, len(s))
	}
}

// P3.3

// behinds are what may stand behind a damaged frame; none of it may make it whole again.
func behinds(s string) []string {
	return []string{"", "x", s, strings.Repeat("\x00", 20), reference("behind")}
}

func TestOneByteTurned(t *testing.T) {
	for _, p := range []string{"", "a", "ab", "\x00\x00\x00\x00\x00", "\xff\xff\xff\xff\xff", someBytes(7, 20), reference("inner")} {
		s := framed(t, p)
		for at := 4; at < len(s); at++ {
			for turn := 1; turn < 256; turn++ {
				b := []byte(s)
				b[at] ^= byte(turn)
				for _, behind := range behinds(s) {
					checkNone(t, "a frame with one byte turned", string(b)+behind)
				}
			}
		}
	}
}

func TestOneByteTurnedOfALongFrame(t *testing.T) {
	s := framed(t, someBytes(8, 1000))
	for at := 4; at < len(s); at++ {
		for _, turn := range []byte{1, 0x80, 0xff} {
			b := []byte(s)
			b[at] ^= turn
			checkNone(t, "a long frame with one byte turned", string(b)+s)
		}
	}
}

func TestCutShort(t *testing.T) {
	for _, p := range payloads() {
		if s := framed(t, p); len(s) < 1000 {
			for cut := range len(s) {
				checkNone(t, "a frame cut short", s[:cut])
				checkAll(t, "a frame, and one cut short", framed(t, "ahead")+s[:cut], []string{"ahead"}, frame.Head+5)
			}
		}
	}
}

func TestAllStopsAtADamagedFrame(t *testing.T) {
	ahead, behind := framed(t, "a")+framed(t, ""), framed(t, "behind")
	middle := framed(t, "middle")
	for at := 4; at < len(middle); at++ {
		b := []byte(middle)
		b[at]++
		checkAll(t, "frames with a damaged one among them", ahead+string(b)+behind, []string{"a", ""}, len(ahead))
	}
}

// A length that says less or more than there is has a checksum that does not fit, and a frame's bytes alone are looked at.
func TestLengthIsSummedUp(t *testing.T) {
	s := framed(t, "abc")
	for length := range byte(8) {
		if length != 3 {
			checkNone(t, "a frame with another length", s[:3]+string([]byte{length})+s[4:]+"\x00\x00\x00\x00\x00")
		}
	}
	payloadAlone := binary.BigEndian.AppendUint32([]byte{0, 0, 0, 3}, crc32.ChecksumIEEE([]byte("abc")))
	checkNone(t, "a checksum of the payload alone", string(payloadAlone)+"abc")
	lowestFirst := []byte(s)
	slices.Reverse(lowestFirst[4:8])
	checkNone(t, "a checksum with the lowest byte first", string(lowestFirst))
}

// Limits and errors

func TestGreatestPayload(t *testing.T) {
	// The last byte alone is another one, so that a payload that lost its end is told.
	p := strings.Repeat("\x00", api.MaxPack-1) + "z"
	s := framed(t, p)
	if s[:4] != "\x04\x00\x00\x00" || s != reference(p) {
		t.Errorf("the greatest frame has %d bytes, and begins with %x", len(s), s[:frame.Head])
	}
	if got, rest, e := frame.Unframe(s + "x"); got != p || rest != "x" || e != api.OK {
		t.Errorf("Unframe of the greatest frame: %d and %d bytes, %v", len(got), len(rest), e)
	}
	checkAll(t, "the greatest frame and another one", s+reference("x"), []string{p, "x"}, len(s)+frame.Head+1)
}

func TestPayloadTooLong(t *testing.T) {
	for _, n := range []int{api.MaxPack + 1, 2 * api.MaxPack} {
		p := strings.Repeat("\x00", n)
		if s, e := frame.Frame(p); s != "" || e != api.ErrArg {
			t.Errorf("Frame of %d bytes: %d bytes, %v; want ErrArg", n, len(s), e)
		}
		checkNone(t, "a frame that is too long", reference(p))
	}
}

func TestLengthsThatAreNone(t *testing.T) {
	for _, n := range []uint32{api.MaxPack + 1, 1 << 27, math.MaxInt32, 1 << 31, math.MaxUint32 - 7, math.MaxUint32} {
		length := binary.BigEndian.AppendUint32(nil, n)
		head := string(binary.BigEndian.AppendUint32(length, crc32.ChecksumIEEE(length)))
		for _, behind := range []string{"", "x", someBytes(9, 100)} {
			checkNone(t, "a length above MaxPack", head+behind)
		}
	}
	checkNone(t, "the greatest length, and nothing behind it", "\x04\x00\x00\x00\x00\x00\x00\x00")
}

// R2 and R3: what a caller writes into an answer, or behind it, shows in no other one.
func TestAnswersAreApart(t *testing.T) {
	s := framed(t, "a") + framed(t, "b") + framed(t, "c")
	want := []string{"a", "b", "c"}
	first, _ := frame.All(s)
	second, _ := frame.All(s)
	for i := range first {
		first[i] = "written over"
	}
	_ = append(first, "behind")
	if !slices.Equal(second, want) {
		t.Errorf("the other answer is %q", second)
	}
	checkAll(t, "asked again", s, want, len(s))
}

// Whatever the bytes: what All answers, framed again, is just the bytes that it counted, and behind them no frame stands.
func FuzzAll(f *testing.F) {
	f.Add([]byte(""))
	f.Add([]byte(reference("a") + reference("") + "xy"))
	f.Add([]byte(reference("abc")[:9]))
	f.Add([]byte("\xff\xff\xff\xff\x00\x00\x00\x00abc"))
	f.Fuzz(func(t *testing.T, data []byte) {
		s := string(data)
		l, whole := frame.All(s)
		again := ""
		for _, p := range l {
			again += framed(t, p)
		}
		if again != s[:whole] {
			t.Errorf("All(%x): %x, %d", s, l, whole)
		}
		checkNone(t, "what stands behind all frames", s[whole:])
	})
}

package wire_test

import (
	"bytes"
	"encoding/binary"
	"encoding/hex"
	"math"
	"math/rand"
	"strings"
	"testing"

	"muniment/api"
	"muniment/wire"
)

func unhex(t *testing.T, s string) string {
	t.Helper()
	b, err := hex.DecodeString(strings.ReplaceAll(s, " ", ""))
	if err != nil {
		t.Fatal(err)
	}
	return string(b)
}

// edges are the numbers at which a byte more is needed, in either form, and their neighbours.
func edges() []uint64 {
	l := []uint64{0, 1, 300, math.MaxInt64, math.MaxUint64, math.MaxUint64 - 1}
	for _, bits := range []int{7, 8} {
		for shift := bits; shift < 64; shift += bits {
			n := uint64(1) << shift
			l = append(l, n-1, n, n+1)
		}
	}
	return l
}

// left asks that a reader has just these bytes left, and takes them.
func left(t *testing.T, what string, r *wire.Reader, want string) {
	t.Helper()
	if r.Left() != len(want) {
		t.Errorf("%s: %d bytes left, want %d", what, r.Left(), len(want))
	}
	if s, e := r.Take(len(want)); s != want || e != api.OK {
		t.Errorf("%s: left are %x, %v, want %x", what, s, e, want)
	}
}

// P1.1

func TestPutExamples(t *testing.T) {
	for _, c := range []struct {
		s    string
		n    uint64
		want string
	}{{"", 0, "00"}, {"", 127, "7f"}, {"", 128, "8001"}, {"x", 300, "78ac02"}} {
		if s := wire.Put(c.s, c.n); s != unhex(t, c.want) {
			t.Errorf("Put(%q, %d): %x, want %s", c.s, c.n, s, c.want)
		}
	}
	if n := wire.Len(math.MaxUint64); n != 10 {
		t.Errorf("Len of the greatest number: %d", n)
	}
}

func TestPutAtEdges(t *testing.T) {
	for _, n := range edges() {
		want := string(binary.AppendUvarint([]byte("ahead"), n))
		if s := wire.Put("ahead", n); s != want {
			t.Errorf("Put(%d): %x, want %x", n, s, want)
		}
		if size := wire.Len(n); size != len(want)-len("ahead") {
			t.Errorf("Len(%d): %d", n, size)
		}
	}
}

func TestPutText(t *testing.T) {
	for _, size := range []int{0, 1, 127, 128, 300, 1 << 14, 1<<21 + 1} {
		text := strings.Repeat("\x00\xff\x80", size/3+1)[:size]
		want := string(binary.AppendUvarint([]byte("ahead"), uint64(size))) + text
		if s := wire.PutText("ahead", text); s != want {
			t.Errorf("PutText of %d bytes: %d bytes", size, len(s))
		}
	}
}

func TestPutFixedExamples(t *testing.T) {
	if s, e := wire.PutFixed("", 258, 2); s != "\x01\x02" || e != api.OK {
		t.Errorf("PutFixed(258, 2): %x, %v", s, e)
	}
	for _, c := range []struct {
		n     uint64
		width int
	}{{256, 1}, {0, 9}} {
		if s, e := wire.PutFixed("", c.n, c.width); s != "" || e != api.ErrArg {
			t.Errorf("PutFixed(%d, %d): %x, %v", c.n, c.width, s, e)
		}
	}
}

func TestPutFixedAtEdges(t *testing.T) {
	for width := 1; width <= wire.MaxWidth; width++ {
		for _, n := range edges() {
			whole := binary.BigEndian.AppendUint64(nil, n)
			ahead, want := whole[:8-width], "ahead"+string(whole[8-width:])
			s, e := wire.PutFixed("ahead", n, width)
			if fits := bytes.Count(ahead, []byte{0}) == len(ahead); fits && (s != want || e != api.OK) {
				t.Errorf("PutFixed(%d, %d): %x, %v", n, width, s, e)
			} else if !fits && (s != "" || e != api.ErrArg) {
				t.Errorf("PutFixed(%d, %d), which does not fit: %x, %v", n, width, s, e)
			}
		}
	}
}

func TestPutFixedWidths(t *testing.T) {
	for _, width := range []int{math.MinInt, -1, 0, 9, 64, math.MaxInt} {
		for _, n := range []uint64{0, 1, math.MaxUint64} {
			if s, e := wire.PutFixed("ahead", n, width); s != "" || e != api.ErrArg {
				t.Errorf("PutFixed(%d, %d): %x, %v", n, width, s, e)
			}
		}
	}
}

func TestHex(t *testing.T) {
	if s := wire.Hex("az"); s != "617a" {
		t.Errorf("Hex(az): %s", s)
	}
	if s, e := wire.Unhex("617a"); s != "az" || e != api.OK {
		t.Errorf("Unhex(617a): %q, %v", s, e)
	}
	var all []byte
	for c := range 256 {
		all = append(all, byte(c))
	}
	for size := range len(all) + 1 {
		s := string(all[:size])
		if h := wire.Hex(s); h != hex.EncodeToString(all[:size]) {
			t.Errorf("Hex of %d bytes: %s", size, h)
		}
		if back, e := wire.Unhex(wire.Hex(s)); back != s || e != api.OK {
			t.Errorf("Unhex of Hex of %d bytes: %x, %v", size, back, e)
		}
	}
}

func TestUnhexOfEachTwoBytes(t *testing.T) {
	const digits = "0123456789abcdef"
	for high := range 256 {
		for low := range 256 {
			s := string([]byte{byte(high), byte(low)})
			h, l := strings.IndexByte(digits, byte(high)), strings.IndexByte(digits, byte(low))
			got, e := wire.Unhex(s)
			if h < 0 || l < 0 {
				if got != "" || e != api.ErrForm {
					t.Fatalf("Unhex(%q): %x, %v", s, got, e)
				}
			} else if got != string([]byte{byte(16*h + l)}) || e != api.OK || wire.Hex(got) != s {
				t.Fatalf("Unhex(%q): %x, %v", s, got, e)
			}
		}
	}
}

func TestUnhexRefuses(t *testing.T) {
	for _, s := range []string{"6", "617", "6A", "61 7a", "0x61", "617a\n", "61é", "616g", "g161", "\x00\x00", "6161616161616161x1"} {
		if got, e := wire.Unhex(s); got != "" || e != api.ErrForm {
			t.Errorf("Unhex(%q): %x, %v", s, got, e)
		}
	}
}

// P1.2

func TestReaderExample(t *testing.T) {
	r := wire.New(unhex(t, "0261 62 0102"))
	if s, e := r.Text(1); s != "" || e != api.ErrForm {
		t.Errorf("Text(1): %q, %v", s, e)
	}
	if s, e := r.Text(2); s != "ab" || e != api.OK {
		t.Errorf("Text(2): %q, %v", s, e)
	}
	if n, e := r.Fixed(2); n != 258 || e != api.OK {
		t.Errorf("Fixed(2): %d, %v", n, e)
	}
	if e := r.End(); e != api.OK {
		t.Errorf("End: %v", e)
	}
}

func TestUintRefuses(t *testing.T) {
	nines := strings.Repeat("\xff", 9)
	l := []string{"", nines + "\x02", nines + "\x03", nines + "\x7f", nines + "\x82\x00", nines + "\xff\x02", nines + "\xff\x01",
		nines + "\x80\x01", strings.Repeat("\xff", 10) + "\x02", strings.Repeat("\x80", 9) + "\x02", strings.Repeat("\xff", 100)}
	for size := 1; size <= 10; size++ {
		for _, b := range []string{"\x80", "\x81", "\xff"} {
			l = append(l, strings.Repeat(b, size), strings.Repeat(b, size)+"\x00", strings.Repeat(b, size)+"\x00\x01")
		}
	}
	for _, s := range l {
		r := wire.New(s)
		if n, e := r.Uint(); n != 0 || e != api.ErrForm {
			t.Errorf("Uint of %x: %d, %v", s, n, e)
		}
		left(t, "Uint of "+wire.Hex(s), r, s)
	}
}

// A short number that is taken is the one that Put gives, byte for byte, whatever two bytes stand there.
func TestUintOfEachTwoBytes(t *testing.T) {
	for first := range 256 {
		for second := range 256 {
			s := string([]byte{byte(first), byte(second)})
			want, size := binary.Uvarint([]byte(s))
			ok := size > 0 && wire.Put("", want) == s[:size]
			r := wire.New(s)
			n, e := r.Uint()
			if ok && (n != want || e != api.OK || r.Left() != 2-size) {
				t.Fatalf("Uint of %x: %d, %v, %d left", s, n, e, r.Left())
			}
			if !ok && (n != 0 || e != api.ErrForm || r.Left() != 2) {
				t.Fatalf("Uint of %x: %d, %v, %d left", s, n, e, r.Left())
			}
		}
	}
}

func TestUintAtEdges(t *testing.T) {
	for _, n := range edges() {
		r := wire.New(wire.Put("", n) + "\x80")
		if got, e := r.Uint(); got != n || e != api.OK {
			t.Errorf("Uint of %d: %d, %v", n, got, e)
		}
		left(t, "Uint", r, "\x80")
	}
}

func TestFixed(t *testing.T) {
	const s = "\xfe\xdc\xba\x98\x76\x54\x32\x10"
	for width := 1; width <= wire.MaxWidth; width++ {
		r := wire.New(s + "x")
		if n, e := r.Fixed(width); n != 0xfedcba9876543210>>(8*(8-width)) || e != api.OK {
			t.Errorf("Fixed(%d): %x, %v", width, n, e)
		}
		left(t, "Fixed", r, (s + "x")[width:])
		r = wire.New(s[:width-1])
		if n, e := r.Fixed(width); n != 0 || e != api.ErrForm {
			t.Errorf("Fixed(%d) of a byte too few: %x, %v", width, n, e)
		}
		left(t, "Fixed of a byte too few", r, s[:width-1])
	}
	for _, width := range []int{math.MinInt, -1, 0, 9, math.MaxInt} {
		for _, text := range []string{"", s + s} {
			r := wire.New(text)
			if n, e := r.Fixed(width); n != 0 || e != api.ErrArg {
				t.Errorf("Fixed(%d): %x, %v", width, n, e)
			}
			left(t, "Fixed of a wrong width", r, text)
		}
	}
	for _, want := range []uint64{0, math.MaxUint64} {
		if n, e := wire.New(string(binary.BigEndian.AppendUint64(nil, want))).Fixed(8); n != want || e != api.OK {
			t.Errorf("Fixed(8): %x, %v, want %x", n, e, want)
		}
	}
}

func TestText(t *testing.T) {
	for _, size := range []int{0, 1, 127, 128, 1000} {
		text := strings.Repeat("t", size)
		for _, most := range []int{size, size + 1, math.MaxInt} {
			r := wire.New(wire.PutText("", text) + "behind")
			if s, e := r.Text(most); s != text || e != api.OK {
				t.Errorf("Text(%d) of %d bytes: %d bytes, %v", most, size, len(s), e)
			}
			left(t, "Text", r, "behind")
		}
	}
}

func TestTextRefuses(t *testing.T) {
	abc := wire.PutText("", "abc")
	for _, c := range []struct {
		s    string
		most int
		want api.Errno
	}{
		{abc, 2, api.ErrForm}, {abc, 0, api.ErrForm}, {abc[:3], 3, api.ErrForm}, {abc[:1], 3, api.ErrForm}, {"", 0, api.ErrForm},
		{abc, -1, api.ErrArg}, {abc, math.MinInt, api.ErrArg}, {"", -1, api.ErrArg}, {"\x80\x00", -1, api.ErrArg},
		{"\x83\x00abc", 3, api.ErrForm}, {"\x80\x00", 0, api.ErrForm}, {"\x83", 3, api.ErrForm},
		{strings.Repeat("\x80", 9) + "\x02", math.MaxInt, api.ErrForm}, {strings.Repeat("\x80", 10) + "\x01", math.MaxInt, api.ErrForm},
		{wire.Put("", math.MaxUint64) + "abc", math.MaxInt, api.ErrForm},
		{wire.Put("", 1<<63) + "abc", math.MaxInt, api.ErrForm},
		{wire.Put("", math.MaxInt64) + "abc", math.MaxInt, api.ErrForm},
		{wire.Put("", math.MaxInt64-9) + "abc", math.MaxInt, api.ErrForm},
		{wire.Put("", 1<<32) + "abc", math.MaxInt, api.ErrForm},
		{wire.Put("", 1<<32) + "abc", 3, api.ErrForm},
	} {
		r := wire.New(c.s)
		if s, e := r.Text(c.most); s != "" || e != c.want {
			t.Errorf("Text(%d) of %x: %q, %v", c.most, c.s, s, e)
		}
		left(t, "Text of "+wire.Hex(c.s), r, c.s)
	}
}

func TestTake(t *testing.T) {
	for n := range 4 {
		r := wire.New("abc")
		if s, e := r.Take(n); s != "abc"[:n] || e != api.OK {
			t.Errorf("Take(%d): %q, %v", n, s, e)
		}
		left(t, "Take", r, "abc"[n:])
	}
	for n, want := range map[int]api.Errno{-1: api.ErrArg, math.MinInt: api.ErrArg, 4: api.ErrForm, math.MaxInt: api.ErrForm} {
		r := wire.New("abc")
		if s, e := r.Take(n); s != "" || e != want {
			t.Errorf("Take(%d): %q, %v", n, s, e)
		}
		left(t, "Take", r, "abc")
	}
}

func TestEnd(t *testing.T) {
	if e := wire.New("").End(); e != api.OK {
		t.Errorf("End of nothing: %v", e)
	}
	r := wire.New("\x00")
	if e := r.End(); e != api.ErrForm {
		t.Errorf("End ahead of a byte: %v", e)
	}
	left(t, "End", r, "\x00")
	if e := r.End(); e != api.OK {
		t.Errorf("End behind all: %v", e)
	}
}

func TestNilReader(t *testing.T) {
	var r *wire.Reader
	if n := r.Left(); n != 0 {
		t.Errorf("Left: %d", n)
	}
	if n, e := r.Uint(); n != 0 || e != api.ErrNil {
		t.Errorf("Uint: %d, %v", n, e)
	}
	if e := r.End(); e != api.ErrNil {
		t.Errorf("End: %v", e)
	}
	for _, n := range []int{math.MinInt, -1, 0, 1, 8, 9, math.MaxInt} {
		if m, e := r.Fixed(n); m != 0 || e != api.ErrNil {
			t.Errorf("Fixed(%d): %d, %v", n, m, e)
		}
		if s, e := r.Text(n); s != "" || e != api.ErrNil {
			t.Errorf("Text(%d): %q, %v", n, s, e)
		}
		if s, e := r.Take(n); s != "" || e != api.ErrNil {
			t.Errorf("Take(%d): %q, %v", n, s, e)
		}
	}
}

// R1: a reader that New has not made may answer anything, but it answers.
func TestReaderNotMadeByNew(t *testing.T) {
	for _, n := range []int{math.MinInt, -1, 0, 1, 9, math.MaxInt} {
		var r wire.Reader
		r.Left()
		r.Uint()
		r.Fixed(n)
		r.Text(n)
		r.Take(n)
		r.End()
	}
}

// R2: what one reader takes, another one of the same bytes still has.
func TestReadersAreApart(t *testing.T) {
	a, b := wire.New("abc"), wire.New("abc")
	if _, e := a.Take(2); e != api.OK {
		t.Errorf("Take(2): %v", e)
	}
	left(t, "the other one", b, "abc")
	left(t, "the one", a, "c")
}

// P1.3 and P1.4

// thing is something that was put, or taken: a short number (width 0), a fixed one, a text (width -1).
type thing struct {
	width int
	n     uint64
	text  string
}

func someThing(rnd *rand.Rand) thing {
	x := thing{width: rnd.Intn(wire.MaxWidth+2) - 1}
	switch {
	case x.width < 0:
		b := make([]byte, rnd.Intn(200))
		rnd.Read(b)
		x.text = string(b)
	case x.width == 0:
		x.n = rnd.Uint64() >> rnd.Intn(64)
	default:
		x.n = rnd.Uint64() >> (64 - 8*x.width) >> rnd.Intn(8)
	}
	return x
}

func (x thing) put(s string) (string, api.Errno) {
	switch {
	case x.width < 0:
		return wire.PutText(s, x.text), api.OK
	case x.width == 0:
		return wire.Put(s, x.n), api.OK
	}
	return wire.PutFixed(s, x.n, x.width)
}

func take(r *wire.Reader, width, most int) (x thing, e api.Errno) {
	x.width = width
	switch {
	case width < 0:
		x.text, e = r.Text(most)
	case width == 0:
		x.n, e = r.Uint()
	default:
		x.n, e = r.Fixed(width)
	}
	return x, e
}

func TestWhatWasPutIsTaken(t *testing.T) {
	rnd := rand.New(rand.NewSource(1))
	for range 300 {
		var l []thing
		s := ""
		for range rnd.Intn(30) {
			x := someThing(rnd)
			var e api.Errno
			if s, e = x.put(s); e != api.OK {
				t.Fatalf("put %v: %v", x, e)
			}
			l = append(l, x)
		}
		r := wire.New(s)
		for _, x := range l {
			if got, e := take(r, x.width, len(x.text)); got != x || e != api.OK {
				t.Fatalf("taken: %v, %v, put: %v", got, e, x)
			}
		}
		if e := r.End(); e != api.OK || r.Left() != 0 {
			t.Fatalf("behind all: %v, %d left", e, r.Left())
		}
	}
}

// Bytes that nobody put: what a reader makes of them has one form, and Left falls by that form's length alone.
func TestWhatIsTakenHasOneForm(t *testing.T) {
	rnd := rand.New(rand.NewSource(2))
	taken := 0
	for range 5000 {
		b := make([]byte, rnd.Intn(40))
		for i := range b {
			b[i] = [...]byte{0, 1, 2, 0x7f, 0x80, 0x81, 0xff, byte(rnd.Intn(256))}[rnd.Intn(8)]
		}
		r, again := wire.New(string(b)), ""
		for range 40 {
			ahead := r.Left()
			x, e := take(r, rnd.Intn(wire.MaxWidth+2)-1, rnd.Intn(200))
			if e != api.OK {
				if r.Left() != ahead || x != (thing{width: x.width}) {
					t.Fatalf("refused with %v: %v, %d left of %d", e, x, r.Left(), ahead)
				}
				continue
			}
			taken++
			put, e := x.put("")
			if e != api.OK || r.Left() != ahead-len(put) || r.Left() < 0 {
				t.Fatalf("%v put again: %x, %v; %d left of %d", x, put, e, r.Left(), ahead)
			}
			again += put
		}
		if again+string(b[len(b)-r.Left():]) != string(b) {
			t.Fatalf("taken from %x and put again: %x, %d left", b, again, r.Left())
		}
	}
	if taken < 5000 {
		t.Errorf("only %d things were taken", taken)
	}
}

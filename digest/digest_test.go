package digest_test

import (
	"bytes"
	"crypto/sha256"
	"encoding/binary"
	"encoding/hex"
	"math/rand"
	"slices"
	"strings"
	"testing"

	"muniment/api"
	"muniment/digest"
)

const (
	emptyDigits = "e3b0c44298fc1c149afbf4c8996fb92427ae41e4649b934ca495991b7852b855"
	letters56   = "abcdbcdecdefdefgefghfghighijhijkijkljklmklmnlmnomnopnopq"
)

func someBytes(seed int64, n int) string {
	b := make([]byte, n)
	rand.New(rand.NewSource(seed)).Read(b)
	return string(b)
}

func reference(s string) api.Id { return sha256.Sum256([]byte(s)) }

// edges are the lengths at which a block, or the room for the number of bits, is just filled, and those around them.
func edges() []int {
	all := []int{1000, 1023, 1024, 1025, 4095, 4096, 4097, 65535, 65536, 65537, api.MaxData}
	for n := range 260 {
		all = append(all, n)
	}
	return all
}

func TestSumExamples(t *testing.T) {
	for _, c := range []struct{ in, want string }{
		{"", emptyDigits},
		{"abc", "ba7816bf8f01cfea414140de5dae2223b00361a396177a9cb410ff61f20015ad"},
		{letters56, "248d6a61d20638b8e5c026930c3e6039a33ce45964ff2167f6ecedd419db06c1"},
		{strings.Repeat("a", 1000000), "cdc76e5c9914fb9281a1c7e284d73e67f1809a48a497200e046d39ccc7112cd0"},
	} {
		if got := digest.Text(digest.Sum(c.in)); got != c.want {
			t.Errorf("Sum of %d bytes is %s, want %s", len(c.in), got, c.want)
		}
	}
}

func TestSumOfEveryEdge(t *testing.T) {
	for _, n := range edges() {
		for _, s := range []string{someBytes(int64(n), n), strings.Repeat("\x00", n), strings.Repeat("\xff", n)} {
			if got, want := digest.Sum(s), reference(s); got != want {
				t.Errorf("Sum of %d bytes is %x, want %x", n, got, want)
			}
		}
	}
}

func TestOfIsTheSumOfItsParts(t *testing.T) {
	if digest.Of(1, "") != digest.Sum("\x01\x00\x00\x00\x00\x00\x00\x00\x00") {
		t.Error("Of(1, \"\") is not the Sum of its nine bytes")
	}
	for kind := range 256 {
		for _, n := range []int{0, 1, 46, 47, 54, 55, 56, 255, 256} {
			checkOf(t, uint8(kind), someBytes(int64(n), n))
		}
	}
	for _, n := range []int{65535, 65536, 1<<20 + 3, api.MaxPayload} {
		checkOf(t, api.KindList, someBytes(int64(n), n))
	}
}

func checkOf(t *testing.T, kind uint8, payload string) {
	t.Helper()
	whole := string(binary.BigEndian.AppendUint64([]byte{kind}, uint64(len(payload)))) + payload
	if got, want := digest.Of(kind, payload), reference(whole); got != want || got != digest.Sum(whole) {
		t.Errorf("Of(%d, %d bytes) is %x, want %x", kind, len(payload), got, want)
	}
}

func TestTextAndParse(t *testing.T) {
	ids := []api.Id{{}, {0: 1}, {31: 1}, {0: 0xf0, 31: 0x0f}, reference("")}
	for i := range int64(100) {
		ids = append(ids, reference(someBytes(i, 32)))
	}
	for _, id := range ids {
		text := digest.Text(id)
		if text != hex.EncodeToString(id[:]) {
			t.Errorf("Text of %x is %s", id, text)
		}
		if back, e := digest.Parse(text); back != id || e != api.OK {
			t.Errorf("Parse(%s) is %x, %v", text, back, e)
		}
	}
	if id, e := digest.Parse(emptyDigits); id != digest.Sum("") || e != api.OK {
		t.Errorf("Parse of an example's digits is %x, %v", id, e)
	}
}

func TestParseRefuses(t *testing.T) {
	checkRefused := func(text string) {
		t.Helper()
		if id, e := digest.Parse(text); id != (api.Id{}) || e != api.ErrForm {
			t.Errorf("Parse(%q) is %x, %v; want ErrForm", text, id, e)
		}
	}
	for n := range 200 {
		if n != 64 {
			checkRefused(strings.Repeat("e3", 100)[:n])
		}
	}
	for at := range 64 {
		for _, c := range []string{"A", "F", "g", "G", "/", ":", "@", "`", " ", "-", "\x00", "\x80", "\xff"} {
			checkRefused(emptyDigits[:at] + c + emptyDigits[at+1:])
		}
	}
	checkRefused("0x" + emptyDigits[2:])
	checkRefused(strings.Repeat("é", 32))
	checkRefused(strings.ToUpper(emptyDigits))
	checkRefused(emptyDigits + "\n")
}

func TestLess(t *testing.T) {
	for at := range len(api.Id{}) {
		low, high := api.Id{}, api.Id{}
		high[at] = 1
		for behind := at + 1; behind < len(low); behind++ {
			low[behind] = 255
		}
		checkOrder(t, low, high)
		low[at], high[at] = 127, 128
		checkOrder(t, low, high)
	}
	var ids []api.Id
	for i := range int64(300) {
		ids = append(ids, reference(someBytes(i, 8)))
	}
	for _, a := range ids {
		for _, b := range ids {
			if digest.Less(a, b) != (slices.Compare(a[:], b[:]) < 0) {
				t.Errorf("Less(%x, %x) is %v", a, b, digest.Less(a, b))
			}
		}
	}
}

func checkOrder(t *testing.T, low, high api.Id) {
	t.Helper()
	if !digest.Less(low, high) || digest.Less(high, low) || digest.Less(low, low) || digest.Less(high, high) {
		t.Errorf("Less does not hold %x to stand ahead of %x", low, high)
	}
}

func TestNewIsASumOfNothing(t *testing.T) {
	s := digest.New()
	if id, e := s.Sum(); digest.Text(id) != emptyDigits || e != api.OK || s.Wrote() != 0 {
		t.Errorf("a new State tells %x, %v, and %d bytes", id, e, s.Wrote())
	}
	if e := s.Write(""); e != api.OK || s.Wrote() != 0 {
		t.Errorf("Write of nothing: %v, and %d bytes", e, s.Wrote())
	}
	if id, e := s.Sum(); digest.Text(id) != emptyDigits || e != api.OK {
		t.Errorf("Sum behind a Write of nothing: %x, %v", id, e)
	}
}

// checkState asks a State twice, since asking must not change what it tells.
func checkState(t *testing.T, s *digest.State, whole string) {
	t.Helper()
	want := reference(whole)
	for range 2 {
		if id, e := s.Sum(); id != want || e != api.OK {
			t.Fatalf("Sum behind %d bytes: %x, %v; want %x", len(whole), id, e, want)
		}
		if s.Wrote() != uint64(len(whole)) {
			t.Fatalf("Wrote is %d, want %d", s.Wrote(), len(whole))
		}
	}
}

func TestTwoPiecesCutAnywhere(t *testing.T) {
	for _, n := range []int{1, 55, 56, 57, 63, 64, 65, 119, 120, 121, 127, 128, 129, 200} {
		whole := someBytes(int64(n), n)
		for cut := range n + 1 {
			s := digest.New()
			for _, piece := range []string{whole[:cut], whole[cut:]} {
				if e := s.Write(piece); e != api.OK {
					t.Fatal(e)
				}
			}
			checkState(t, s, whole)
		}
	}
}

func TestManyPieces(t *testing.T) {
	r := rand.New(rand.NewSource(2))
	for round := range int64(60) {
		whole := someBytes(round, r.Intn(2000))
		s, at := digest.New(), 0
		for at < len(whole) {
			n := min(r.Intn(1+r.Intn(200)), len(whole)-at)
			if e := s.Write(whole[at : at+n]); e != api.OK {
				t.Fatal(e)
			}
			at += n
			checkState(t, s, whole[:at])
		}
	}
}

func TestByteByByteAndGoneOnWith(t *testing.T) {
	whole := someBytes(3, 300)
	s := digest.New()
	for i := range len(whole) {
		if e := s.Write(whole[i : i+1]); e != api.OK {
			t.Fatal(e)
		}
		checkState(t, s, whole[:i+1])
	}
}

func TestStatesDoNotSeeOneAnother(t *testing.T) {
	a, b := digest.New(), digest.New()
	left, right := someBytes(4, 150), someBytes(5, 150)
	for i := range 15 {
		a.Write(left[10*i : 10*i+10])
		b.Write(right[10*i : 10*i+10])
		digest.Sum("between")
	}
	checkState(t, a, left)
	checkState(t, b, right)
}

func TestNilState(t *testing.T) {
	var s *digest.State
	if e := s.Write("x"); e != api.ErrNil {
		t.Errorf("Write: %v", e)
	}
	if e := s.Write(""); e != api.ErrNil {
		t.Errorf("Write of nothing: %v", e)
	}
	if id, e := s.Sum(); id != (api.Id{}) || e != api.ErrNil {
		t.Errorf("Sum: %x, %v", id, e)
	}
	if n := s.Wrote(); n != 0 {
		t.Errorf("Wrote: %d", n)
	}
}

// Of a State that New has not made nothing is promised but that its calls end, and do not panic.
func TestStateMadeOtherwise(t *testing.T) {
	var s digest.State
	for range 3 {
		s.Write(someBytes(6, 100))
		s.Sum()
		s.Wrote()
	}
}

func FuzzPieces(f *testing.F) {
	f.Add([]byte(letters56), uint16(3))
	f.Add(bytes.Repeat([]byte{0x80}, 130), uint16(64))
	f.Fuzz(func(t *testing.T, data []byte, cut uint16) {
		whole, at := string(data), min(int(cut), len(data))
		s := digest.New()
		s.Write(whole[:at])
		s.Write(whole[at:])
		checkState(t, s, whole)
		if digest.Sum(whole) != reference(whole) {
			t.Errorf("Sum(%q)", whole)
		}
	})
}

package split_test

import (
	"math"
	"math/rand"
	"slices"
	"strings"
	"testing"
	"unsafe"

	"muniment/api"
	"muniment/split"
)

// plan is that of the chapter's examples.
var plan = split.Plan{Bits: 4, Fan: 2, Most: 64}

func cut(t *testing.T, p split.Plan, s string) []split.Chunk {
	t.Helper()
	l, e := split.Cut(p, s)
	if e != api.OK {
		t.Fatalf("Cut(%v, %d bytes): %v", p, len(s), e)
	}
	return l
}

func made(t *testing.T, p split.Plan) *split.Splitter {
	t.Helper()
	x, e := split.New(p)
	if e != api.OK || x == nil {
		t.Fatalf("New(%v): %v, %v", p, x, e)
	}
	return x
}

func write(t *testing.T, x *split.Splitter, s string) []split.Piece {
	t.Helper()
	l, e := x.Write(s)
	if e != api.OK {
		t.Fatalf("Write(%d bytes): %v", len(s), e)
	}
	return l
}

func closed(t *testing.T, x *split.Splitter) []split.Piece {
	t.Helper()
	l, e := x.Close()
	if e != api.OK {
		t.Fatalf("Close(): %v", e)
	}
	return l
}

func tiers(t *testing.T, levels []int, most int) []split.Node {
	t.Helper()
	l, e := split.Tiers(levels, most)
	if e != api.OK {
		t.Fatalf("Tiers(%d levels, %d): %v", len(levels), most, e)
	}
	return l
}

// some is a text of so many bytes.
func some(r *rand.Rand, n int) string {
	b := make([]byte, n)
	r.Read(b)
	return string(b)
}

func noughts(n int) string { return strings.Repeat("\x00", n) }

// ones is how many of the lowest bits of a piece's digest are 1, by the words of chapters 8 and 9.
func ones(piece string) int {
	window := piece[max(0, len(piece)-64):]
	low, high := 64*31, 64*65/2*31
	for i := range len(window) {
		low += int(window[i])
		high += (64 - len(window) + i + 1) * int(window[i])
	}
	n := 0
	for digest := uint32(low%65536*65536 + high%65536); digest%2 == 1; digest /= 2 {
		n++
	}
	return n
}

// whatever says whether a piece ends behind its last byte whatever comes.
func whatever(p split.Plan, piece string) bool {
	return ones(piece) >= p.Bits || len(piece) == p.Most
}

// reckoned are a text's pieces by the chapter's words.
func reckoned(p split.Plan, s string) []split.Piece {
	l := []split.Piece{}
	from := 0
	for i := range len(s) {
		piece := s[from : i+1]
		if n := ones(piece); n >= p.Bits {
			l = append(l, split.Piece{Data: piece, Level: (n - p.Bits) / p.Fan})
		} else if len(piece) == p.Most || i+1 == len(s) {
			l = append(l, split.Piece{Data: piece})
		} else {
			continue
		}
		from = i + 1
	}
	return l
}

// chunks are pieces without their bytes.
func chunks(l []split.Piece) []split.Chunk {
	out := []split.Chunk{}
	for _, x := range l {
		out = append(out, split.Chunk{Size: len(x.Data), Level: x.Level})
	}
	return out
}

// plans are some at each limit, and between.
func plans() []split.Plan {
	return []split.Plan{
		plan, {Bits: 4, Fan: 1, Most: 64}, {Bits: 4, Fan: 8, Most: 65536}, {Bits: 5, Fan: 3, Most: 65}, {Bits: 6, Fan: 1, Most: 1000},
		{Bits: 7, Fan: 2, Most: 128}, {Bits: 8, Fan: 1, Most: 65536}, {Bits: 13, Fan: 4, Most: 8192}, {Bits: 16, Fan: 1, Most: 64}, {Bits: 16, Fan: 8, Most: 65536},
	}
}

// texts are of few bytes and of many, alike and any.
func texts() []string {
	r := rand.New(rand.NewSource(1))
	l := []string{""}
	for _, n := range []int{1, 2, 3, 16, 63, 64, 65, 127, 128, 129, 192, 1000, 3000} {
		for _, b := range []string{"\x00", "\x01", "\x21", "\xff"} {
			l = append(l, strings.Repeat(b, n))
		}
		l = append(l, strings.Repeat("\x21\x00", n), strings.Repeat("é日", n), some(r, n), some(r, n), some(r, n))
	}
	return l
}

// levelled are texts of two bytes, and how many ones the digest has: its high sum is 64480 and 63 times the first byte and 64 times the second one.
func levelled() map[string]int {
	return map[string]int{"\x01\x00": 5, "\x21\x01": 6, "\x21\x00": 10, "\x21\x10": 11, "\x21\x30": 12, "\x21\x70": 13, "\x21\xf0": 14}
}

// thirty is a window whose digest has 30 ones, as many as there can be: the low sum is 2^14 - 1, the high one 2^16 - 1.
func thirty() string {
	b := []byte(strings.Repeat("\xe1", 64))
	b[0]--
	high := 0
	for i, w := range b {
		high += (i + 1) * (int(w) + 31)
	}
	// Where the byte i gets what the byte j gives, the low sum stays, and the high one has i less j more.
	for i := 0; high%65536 != 65535; i = (i + 1) % 63 {
		if b[i] < 255 && b[i+1] > 0 {
			b[i]++
			b[i+1]--
			high--
		}
	}
	return string(b)
}

func TestLimits(t *testing.T) {
	got := []int{split.MinBits, split.MaxBits, split.MaxFan, split.MinMost, split.MaxMost, split.MaxItems, split.MaxKids}
	if want := []int{4, 16, 8, 64, 65536, 1048576, 1024}; !slices.Equal(got, want) {
		t.Errorf("the limits are %v, want %v", got, want)
	}
}

func TestExamplesOfCut(t *testing.T) {
	if l := cut(t, plan, noughts(100)); !slices.Equal(l, []split.Chunk{{Size: 64}, {Size: 36}}) {
		t.Errorf("Cut of 100 bytes 0: %v", l)
	}
	if l := cut(t, plan, ""); len(l) != 0 {
		t.Errorf("Cut of nothing: %v", l)
	}
	for _, p := range []split.Plan{{Bits: 3, Fan: 2, Most: 64}, {Bits: 4, Fan: 0, Most: 64}, {Bits: 4, Fan: 2, Most: 63}} {
		if e := p.Check(); e != api.ErrPlan {
			t.Errorf("Check of %v: %v", p, e)
		}
	}
}

func TestExamplesOfTiers(t *testing.T) {
	for _, x := range []struct {
		levels []int
		most   int
		want   [][]int
	}{
		{[]int{0, 0, 0, 0, 0}, 2, [][]int{{0, 1}, {2, 3}, {5, 6}, {7, 4}}},
		{[]int{0, 1, 0, 0}, 9, [][]int{{0, 1}, {2, 3}, {4, 5}}},
		{[]int{1, 1}, 5, [][]int{{0, 1}}},
		{[]int{7}, 2, nil},
		{nil, 2, nil},
	} {
		checkNodes(t, x.levels, x.most, x.want)
	}
	if l, e := split.Tiers([]int{0}, 1); e != api.ErrArg || len(l) != 0 {
		t.Errorf("Tiers(0, 1): %v, %v", l, e)
	}
}

func TestCheck(t *testing.T) {
	outside := []int{math.MinInt, -65536, -1, 0, 1 << 32, 1<<32 + 8, 1<<32 + 64, math.MaxInt}
	for _, x := range []struct {
		with          func(n int) split.Plan
		inside, other []int
	}{
		{func(n int) split.Plan { return split.Plan{Bits: n, Fan: 2, Most: 64} }, []int{4, 5, 10, 15, 16}, []int{1, 3, 17, 18, 64}},
		{func(n int) split.Plan { return split.Plan{Bits: 4, Fan: n, Most: 64} }, []int{1, 2, 4, 7, 8}, []int{-2, 9, 10, 64}},
		{func(n int) split.Plan { return split.Plan{Bits: 4, Fan: 2, Most: n} }, []int{64, 65, 4096, 65535, 65536}, []int{-64, 1, 62, 63, 65537, 1 << 20}},
	} {
		for _, n := range x.inside {
			checkPlan(t, x.with(n), api.OK)
		}
		for _, n := range append(x.other, outside...) {
			checkPlan(t, x.with(n), api.ErrPlan)
		}
	}
	checkPlan(t, split.Plan{}, api.ErrPlan)
}

// checkPlan asks a plan in each of the calls that take one.
func checkPlan(t *testing.T, p split.Plan, want api.Errno) {
	t.Helper()
	l, e := split.Cut(p, noughts(64))
	x, f := split.New(p)
	if p.Check() != want || e != want || f != want {
		t.Errorf("%v: Check %v, Cut %v, New %v, want %v", p, p.Check(), e, f, want)
	}
	if is := want == api.OK; (x != nil) != is || (len(l) == 1) != is {
		t.Errorf("%v: New is %v, Cut %v", p, x, l)
	}
}

// TestByHand asks cuts that were reckoned without a program.
func TestByHand(t *testing.T) {
	cuts := "\x21\x00"
	for _, x := range []struct {
		p    split.Plan
		s    string
		want []split.Chunk
	}{
		{plan, "\x00", []split.Chunk{{Size: 1}}},
		{plan, "\x21", []split.Chunk{{Size: 1}}},
		// The last byte's cut has its level too, if it is of the first kind.
		{plan, cuts, []split.Chunk{{Size: 2, Level: 3}}},
		{plan, cuts + "\x01", []split.Chunk{{Size: 2, Level: 3}, {Size: 1}}},
		{plan, cuts + cuts + "\x21\xf0", []split.Chunk{{Size: 2, Level: 3}, {Size: 2, Level: 3}, {Size: 2, Level: 5}}},
		{plan, noughts(61) + cuts, []split.Chunk{{Size: 63, Level: 3}}},
		// Of both kinds at once it is of the first one.
		{plan, noughts(62) + cuts, []split.Chunk{{Size: 64, Level: 3}}},
		{plan, noughts(62) + cuts + "\x00", []split.Chunk{{Size: 64, Level: 3}, {Size: 1}}},
		// The roll begins anew: the byte ahead of the cut is not seen behind it.
		{plan, noughts(63) + cuts, []split.Chunk{{Size: 64}, {Size: 1}}},
		{plan, noughts(64) + cuts, []split.Chunk{{Size: 64}, {Size: 2, Level: 3}}},
		{split.Plan{Bits: 4, Fan: 2, Most: 65}, noughts(63) + cuts, []split.Chunk{{Size: 65, Level: 3}}},
		{split.Plan{Bits: 4, Fan: 2, Most: 65536}, noughts(1000) + cuts, []split.Chunk{{Size: 1002, Level: 3}}},
		{plan, noughts(128), []split.Chunk{{Size: 64}, {Size: 64}}},
		{plan, noughts(129), []split.Chunk{{Size: 64}, {Size: 64}, {Size: 1}}},
	} {
		if l := cut(t, x.p, x.s); !slices.Equal(l, x.want) {
			t.Errorf("Cut(%v, %q): %v, want %v", x.p, x.s, l, x.want)
		}
	}
}

// TestLevels asks each number of Bits and Fan of digests with so many ones.
func TestLevels(t *testing.T) {
	for s, n := range levelled() {
		if ones(s) != n || ones(s[:1]) != 0 {
			t.Fatalf("%q has %d ones", s, ones(s))
		}
		for bits := 4; bits <= 16; bits++ {
			for fan := 1; fan <= 8; fan++ {
				want := split.Chunk{Size: 3}
				if n >= bits {
					want = split.Chunk{Size: 2, Level: (n - bits) / fan}
				}
				if l := cut(t, split.Plan{Bits: bits, Fan: fan, Most: 64}, s+"\x00"); l[0] != want {
					t.Errorf("Bits %d, Fan %d, %d ones: %v, want %v first", bits, fan, n, l, want)
				}
			}
		}
	}
}

// TestManyOnes asks a digest with more ones than its high sum has bits.
func TestManyOnes(t *testing.T) {
	s := thirty()
	if n := ones(s); n != 30 {
		t.Fatalf("it has %d ones", n)
	}
	for fan := 1; fan <= 8; fan++ {
		want := []split.Chunk{{Size: 64, Level: 14 / fan}}
		for _, most := range []int{64, 65, 65536} {
			if l := cut(t, split.Plan{Bits: 16, Fan: fan, Most: most}, s); !slices.Equal(l, want) {
				t.Errorf("Fan %d, Most %d: %v, want %v", fan, most, l, want)
			}
		}
	}
}

func TestCut(t *testing.T) {
	for _, p := range plans() {
		for _, s := range texts() {
			if got, want := cut(t, p, s), chunks(reckoned(p, s)); !slices.Equal(got, want) {
				t.Fatalf("Cut(%v, %q): %v, want %v", p, s, got, want)
			}
		}
	}
}

// TestSizes asks P9.4 of Cut.
func TestSizes(t *testing.T) {
	for _, p := range plans() {
		for _, s := range texts() {
			all := 0
			for _, c := range cut(t, p, s) {
				if c.Size < 1 || c.Size > p.Most || c.Level < 0 || c.Level > (32-p.Bits)/p.Fan {
					t.Fatalf("Cut(%v, %q) has %v", p, s, c)
				}
				all += c.Size
			}
			if all != len(s) {
				t.Fatalf("Cut(%v, %d bytes) has %d bytes", p, len(s), all)
			}
		}
	}
}

// TestMostData asks both sides of the bound of a file's bytes.
func TestMostData(t *testing.T) {
	r := rand.New(rand.NewSource(2))
	for _, s := range []string{noughts(api.MaxData), some(r, api.MaxData), noughts(api.MaxData - 1)} {
		for _, p := range []split.Plan{plan, {Bits: 13, Fan: 4, Most: 8192}, {Bits: 16, Fan: 1, Most: 65536}} {
			want := reckoned(p, s)
			if got := cut(t, p, s); !slices.Equal(got, chunks(want)) {
				t.Errorf("Cut(%v, %d bytes) has %d chunks, want %d", p, len(s), len(got), len(want))
			}
			x := made(t, p)
			if got := append(write(t, x, s), closed(t, x)...); !slices.Equal(got, want) {
				t.Errorf("a splitter of %v, handed %d bytes: %d pieces, want %d", p, len(s), len(got), len(want))
			}
		}
	}
	for _, n := range []int{api.MaxData + 1, api.MaxData + 64, api.MaxPayload} {
		if l, e := split.Cut(plan, noughts(n)); e != api.ErrArg || len(l) != 0 {
			t.Errorf("Cut of %d bytes: %d chunks, %v", n, len(l), e)
		}
	}
	if l, e := split.Cut(split.Plan{}, noughts(api.MaxData+1)); e != api.ErrPlan || len(l) != 0 {
		t.Errorf("Cut of too many bytes by no plan: %d chunks, %v", len(l), e)
	}
}

func TestMostChunk(t *testing.T) {
	p := split.Plan{Bits: 16, Fan: 8, Most: 65536}
	for n, want := range map[int][]split.Chunk{
		65535:  {{Size: 65535}},
		65536:  {{Size: 65536}},
		65537:  {{Size: 65536}, {Size: 1}},
		131073: {{Size: 65536}, {Size: 65536}, {Size: 1}},
	} {
		if l := cut(t, p, noughts(n)); !slices.Equal(l, want) {
			t.Errorf("Cut of %d bytes: %v, want %v", n, l, want)
		}
	}
}

// TestAtOnce asks P9.2: a chunk is told by the call that hands its last byte.
func TestAtOnce(t *testing.T) {
	x := made(t, plan)
	if l := write(t, x, ""); len(l) != 0 {
		t.Errorf("of no bytes: %#v", l)
	}
	for _, step := range []struct {
		s    string
		want []split.Piece
	}{
		{"\x21", nil},
		{"", nil},
		{"\x00", []split.Piece{{Data: "\x21\x00", Level: 3}}},
		{noughts(63), nil},
		{"\x00", []split.Piece{{Data: noughts(64)}}},
		{noughts(64) + "\x21\x10\x21", []split.Piece{{Data: noughts(64)}, {Data: "\x21\x10", Level: 3}}},
		{"\xf0bc", []split.Piece{{Data: "\x21\xf0", Level: 5}}},
	} {
		if l := write(t, x, step.s); !slices.Equal(l, step.want) {
			t.Errorf("Write(%q): %#v, want %#v", step.s, l, step.want)
		}
	}
	if l := closed(t, x); !slices.Equal(l, []split.Piece{{Data: "bc"}}) {
		t.Errorf("Close(): %#v", l)
	}
}

func TestNothingLeft(t *testing.T) {
	for _, s := range []string{"", "\x21\x00", noughts(64), noughts(64) + "\x21\x00"} {
		x := made(t, plan)
		write(t, x, s)
		if l := closed(t, x); len(l) != 0 {
			t.Errorf("behind %q Close has %#v", s, l)
		}
	}
}

// TestLastLevel asks that the last chunk has Level 0, if Close tells it.
func TestLastLevel(t *testing.T) {
	x := made(t, plan)
	l := append(write(t, x, "\x21\xf0\x21"), closed(t, x)...)
	if want := []split.Piece{{Data: "\x21\xf0", Level: 5}, {Data: "\x21"}}; !slices.Equal(l, want) {
		t.Errorf("%#v, want %#v", l, want)
	}
}

// inPieces hands a text in parts to a splitter, and asks of each call that it tells just what has ended.
func inPieces(t *testing.T, p split.Plan, parts []string) {
	t.Helper()
	s := strings.Join(parts, "")
	want := reckoned(p, s)
	x := made(t, p)
	told, handed, next := 0, 0, 0
	for _, part := range parts {
		handed += len(part)
		due := []split.Piece{}
		for next < len(want) && told+len(want[next].Data) <= handed && whatever(p, want[next].Data) {
			told += len(want[next].Data)
			due = append(due, want[next])
			next++
		}
		if got := write(t, x, part); !slices.Equal(got, due) {
			t.Fatalf("%v, %q, behind %d bytes: %#v, want %#v", p, s, handed, got, due)
		}
	}
	if got := closed(t, x); !slices.Equal(got, want[next:]) || len(got) > 1 {
		t.Fatalf("%v, %q: Close has %#v, want %#v", p, s, got, want[next:])
	}
}

// TestEveryCutInTwo asks P9.4.
func TestEveryCutInTwo(t *testing.T) {
	for _, s := range texts() {
		if len(s) > 200 {
			continue
		}
		for at := range len(s) + 1 {
			inPieces(t, plan, []string{s[:at], s[at:]})
		}
	}
}

// singly are a text's bytes.
func singly(s string) []string {
	l := []string{}
	for i := range len(s) {
		l = append(l, s[i:i+1])
	}
	return l
}

// TestAnyPieces asks P9.4 of parts of a byte, of none, and of many.
func TestAnyPieces(t *testing.T) {
	r := rand.New(rand.NewSource(3))
	for _, p := range plans() {
		for _, s := range texts() {
			inPieces(t, p, singly(s))
			parts := []string{}
			for left := s; len(left) > 0; {
				n := min(len(left), []int{0, 1, 2, 63, 64, 65, 200, r.Intn(500)}[r.Intn(8)])
				parts = append(parts, left[:n])
				left = left[n:]
			}
			inPieces(t, p, parts)
		}
	}
}

// TestBytesOneByOne asks a whole file of the greatest size, by its bytes.
func TestBytesOneByOne(t *testing.T) {
	p := split.Plan{Bits: 16, Fan: 1, Most: 65536}
	s := some(rand.New(rand.NewSource(4)), api.MaxData)
	x := made(t, p)
	got := []split.Piece{}
	for _, b := range singly(s) {
		got = append(got, write(t, x, b)...)
	}
	if l, e := x.Write("a"); e != api.ErrArg || len(l) != 0 {
		t.Errorf("a byte more: %#v, %v", l, e)
	}
	if got = append(got, closed(t, x)...); !slices.Equal(chunks(got), cut(t, p, s)) {
		t.Errorf("%d pieces, want %d", len(got), len(cut(t, p, s)))
	}
}

// TestTooMuch asks ErrArg of what all calls together have handed, and that a call that is refused leaves nothing behind.
func TestTooMuch(t *testing.T) {
	for _, n := range []int{0, 1, 63, 64, 100, api.MaxData - 1, api.MaxData} {
		x := made(t, plan)
		got := write(t, x, noughts(n))
		for _, more := range []int{1, 2, 64, 1000} {
			if l, e := x.Write(strings.Repeat("\x21", api.MaxData-n+more)); e != api.ErrArg || len(l) != 0 {
				t.Fatalf("%d bytes more than may be, behind %d: %d pieces, %v", more, n, len(l), e)
			}
		}
		got = append(got, write(t, x, "")...)
		got = append(got, write(t, x, noughts(api.MaxData-n))...)
		got = append(got, closed(t, x)...)
		if !slices.Equal(chunks(got), cut(t, plan, noughts(api.MaxData))) {
			t.Errorf("behind %d bytes and a call that was refused: %d pieces", n, len(got))
		}
	}
}

func TestNil(t *testing.T) {
	var x *split.Splitter
	for _, s := range []string{"", "a", noughts(api.MaxData + 1)} {
		if l, e := x.Write(s); e != api.ErrNil || len(l) != 0 {
			t.Errorf("Write of %d bytes on a nil splitter: %#v, %v", len(s), l, e)
		}
	}
	if l, e := x.Close(); e != api.ErrNil || len(l) != 0 {
		t.Errorf("Close on a nil splitter: %#v, %v", l, e)
	}
}

func TestDone(t *testing.T) {
	for _, s := range []string{"", "abc", noughts(64), noughts(api.MaxData)} {
		x := made(t, plan)
		write(t, x, s)
		closed(t, x)
		for range 2 {
			for _, more := range []string{"", "a", noughts(64), noughts(api.MaxData + 1)} {
				if l, e := x.Write(more); e != api.ErrDone || len(l) != 0 {
					t.Errorf("Write of %d bytes behind Close: %#v, %v", len(more), l, e)
				}
			}
			if l, e := x.Close(); e != api.ErrDone || len(l) != 0 {
				t.Errorf("Close behind Close: %#v, %v", l, e)
			}
		}
	}
}

// TestMadeOtherwise asks only that calls on a splitter that New has not made end.
func TestMadeOtherwise(t *testing.T) {
	x, y := &split.Splitter{}, *made(t, plan)
	for range 3 {
		x.Write("\x21\x00" + noughts(200))
		y.Write("\x21\x00" + noughts(200))
	}
	x.Close()
	y.Close()
	x.Write("a")
}

func TestSplittersDoNotSeeOneAnother(t *testing.T) {
	r := rand.New(rand.NewSource(5))
	other := split.Plan{Bits: 5, Fan: 1, Most: 100}
	one, two := made(t, plan), made(t, other)
	handed, handedToo, told, toldToo := "", "", []split.Piece{}, []split.Piece{}
	for range 300 {
		s := some(r, r.Intn(40))
		if r.Intn(2) == 0 {
			told, handed = append(told, write(t, one, s)...), handed+s
		} else {
			toldToo, handedToo = append(toldToo, write(t, two, s)...), handedToo+s
		}
		cut(t, plan, s)
	}
	told, toldToo = append(told, closed(t, one)...), append(toldToo, closed(t, two)...)
	if !slices.Equal(told, reckoned(plan, handed)) || !slices.Equal(toldToo, reckoned(other, handedToo)) {
		t.Errorf("of %d and %d bytes: %d and %d pieces", len(handed), len(handedToo), len(told), len(toldToo))
	}
}

// within says whether a text's bytes stand in another one's memory.
func within(part, s string) bool {
	from, at := uintptr(unsafe.Pointer(unsafe.StringData(s))), uintptr(unsafe.Pointer(unsafe.StringData(part)))
	return at >= from && at < from+uintptr(len(s))
}

// TestNewMemory asks R3: bytes that were handed in are handed out as others, and a list that was handed out is the caller's.
func TestNewMemory(t *testing.T) {
	s := some(rand.New(rand.NewSource(6)), 2000)
	x, want := made(t, plan), reckoned(plan, s)
	got := []split.Piece{}
	for from := 0; from < len(s); from += 100 {
		part := s[from : from+100]
		l := write(t, x, part)
		for _, piece := range l {
			if len(piece.Data) > 1 && within(piece.Data, s) {
				t.Fatalf("%q is what was handed in", piece.Data)
			}
		}
		got = append(got, l...)
		for i := range l[:cap(l)] {
			l[:cap(l)][i] = split.Piece{Data: "spoilt", Level: 99}
		}
	}
	if got = append(got, closed(t, x)...); !slices.Equal(got, want) {
		t.Errorf("%#v, want %#v", got, want)
	}
}

// ends are the places of a text's cuts.
func ends(l []split.Chunk) []int {
	out := []int{}
	at := 0
	for _, c := range l {
		at += c.Size
		out = append(out, at)
	}
	return out
}

// TestAlikeBehind asks P9.5 of two texts with one end.
func TestAlikeBehind(t *testing.T) {
	r := rand.New(rand.NewSource(7))
	asked := 0
	for range 300 {
		end := some(r, 1+r.Intn(500))
		one, other := some(r, r.Intn(300))+end, some(r, r.Intn(300))+end
		l, m := cut(t, plan, one), cut(t, plan, other)
		for i, at := range append([]int{0}, ends(l)...) {
			for j, too := range append([]int{0}, ends(m)...) {
				if len(one)-at != len(other)-too || len(one)-at > len(end) {
					continue
				}
				asked++
				if !slices.Equal(l[i:], m[j:]) {
					t.Fatalf("%q and %q are cut otherwise behind %d and %d", one, other, at, too)
				}
			}
		}
	}
	if asked < 1000 {
		t.Errorf("%d cuts were asked", asked)
	}
}

// TestBeginnings asks P9.5 of a text's beginnings: each of them ends in a cut that is the text's own, also by its kind.
func TestBeginnings(t *testing.T) {
	for _, p := range plans() {
		for _, s := range texts() {
			l := cut(t, p, s)
			for i, at := range ends(l) {
				if i%10 == 0 && !slices.Equal(cut(t, p, s[:at]), l[:i+1]) {
					t.Fatalf("%v: the first %d bytes of %q are cut otherwise", p, at, s)
				}
			}
		}
	}
}

// TestAlikeAtFront asks P9.7.
func TestAlikeAtFront(t *testing.T) {
	r := rand.New(rand.NewSource(8))
	for range 500 {
		front := some(r, r.Intn(400))
		one, other := front+some(r, r.Intn(100)), front+some(r, r.Intn(100))
		l, m := cut(t, plan, one), cut(t, plan, other)
		for i, at := range ends(l) {
			if at == len(one) || at > len(front) {
				break
			}
			if i >= len(m) || ends(m)[i] != at || m[i].Level != l[i].Level && at != len(other) {
				t.Fatalf("%q and %q, alike in %d bytes, are cut otherwise behind %d", one, other, len(front), at)
			}
		}
	}
}

// TestChangedInside asks what P9.5 and P9.7 are for: a change in the midst leaves most chunks as they were.
func TestChangedInside(t *testing.T) {
	s := some(rand.New(rand.NewSource(9)), 20000)
	changed := s[:10000] + "another" + s[10003:]
	kept, all := map[string]int{}, reckoned(plan, s)
	for _, piece := range all {
		kept[piece.Data] = 1
	}
	x, unlike := made(t, plan), 0
	for _, piece := range append(write(t, x, changed), closed(t, x)...) {
		unlike += 1 - kept[piece.Data]
	}
	if unlike > len(all)/10 {
		t.Errorf("of %d chunks %d are others", len(all), unlike)
	}
}

// grouped are the nodes by the chapter's words.
func grouped(levels []int, most int) [][]int {
	all := slices.Clone(levels) // the levels of all items, by their numbers
	nodes := [][]int{}
	items := []int{}
	for i := range levels {
		items = append(items, i)
	}
	for tier := 1; len(items) > 1; tier++ {
		next, group := []int{}, []int{}
		for i, item := range items {
			group = append(group, item)
			if all[item] < tier && len(group) < most && i < len(items)-1 {
				continue
			}
			if len(group) > 1 {
				nodes = append(nodes, group)
				next = append(next, len(all))
				all = append(all, all[item])
			} else {
				next = append(next, item)
			}
			group = []int{}
		}
		items = next
	}
	return nodes
}

func checkNodes(t *testing.T, levels []int, most int, want [][]int) {
	t.Helper()
	got := tiers(t, levels, most)
	same := len(got) == len(want)
	for i := 0; same && i < len(want); i++ {
		same = slices.Equal(got[i].Kids, want[i])
	}
	if !same {
		t.Fatalf("Tiers(%v, %d): %v, want %v", levels[:min(len(levels), 100)], most, got[:min(len(got), 100)], want[:min(len(want), 100)])
	}
}

// TestTiersByHand asks nodes that were put together without a program.
func TestTiersByHand(t *testing.T) {
	for _, x := range []struct {
		levels []int
		most   int
		want   [][]int
	}{
		{[]int{0, 0}, 2, [][]int{{0, 1}}},
		{[]int{0, 0, 0}, 2, [][]int{{0, 1}, {3, 2}}},
		{[]int{0, 0, 0}, 3, [][]int{{0, 1, 2}}},
		{[]int{0, 0, 0, 0}, 3, [][]int{{0, 1, 2}, {4, 3}}},
		// A node has the level of its last item: (0 1) has 2, and ends a group by itself at the tier 2.
		{[]int{0, 2, 0, 0}, 4, [][]int{{0, 1}, {2, 3}, {4, 5}}},
		{[]int{0, 2, 0, 1, 0, 0}, 4, [][]int{{0, 1}, {2, 3}, {4, 5}, {7, 8}, {6, 9}}},
		{[]int{1, 0, 1, 0}, 4, [][]int{{1, 2}, {0, 4, 3}}},
		{[]int{32, 32, 32}, 2, [][]int{{0, 1}, {3, 2}}},
		{[]int{32, 0, 0, 32}, 3, [][]int{{1, 2, 3}, {0, 4}}},
	} {
		checkNodes(t, x.levels, x.most, x.want)
	}
}

// TestEveryFewItems asks all rows of up to seven items of the levels 0 to 3.
func TestEveryFewItems(t *testing.T) {
	for n := range 8 {
		for which := range 1 << (2 * n) {
			levels := make([]int, n)
			for i := range levels {
				levels[i] = which >> (2 * i) & 3
			}
			for most := 2; most <= 5; most++ {
				checkNodes(t, levels, most, grouped(levels, most))
				checkTree(t, n, most, tiers(t, levels, most))
			}
		}
	}
}

// rows are levels of many items: as cuts have them, any, and at the limits.
func rows(r *rand.Rand, n int) [][]int {
	l := [][]int{make([]int, n), make([]int, n), make([]int, n), make([]int, n)}
	for i := range n {
		for r.Intn(4) == 0 && l[0][i] < 32 {
			l[0][i]++
		}
		l[1][i] = r.Intn(33)
		l[2][i] = 32
		l[3][i] = 32 * r.Intn(2)
	}
	return append(l, make([]int, n))
}

func TestManyItems(t *testing.T) {
	r := rand.New(rand.NewSource(10))
	for _, n := range []int{1, 2, 3, 10, 100, 1023, 1024, 1025, 5000} {
		for _, levels := range rows(r, n) {
			for _, most := range []int{2, 3, 7, 64, 1023, 1024} {
				checkNodes(t, levels, most, grouped(levels, most))
				checkTree(t, n, most, tiers(t, levels, most))
			}
		}
	}
}

// checkTree asks P9.6 of nodes.
func checkTree(t *testing.T, items, most int, nodes []split.Node) {
	t.Helper()
	if items < 2 {
		if len(nodes) != 0 {
			t.Fatalf("of %d items: %v", items, nodes)
		}
		return
	}
	in := make([]int, items+len(nodes))
	for i, node := range nodes {
		if len(node.Kids) < 2 || len(node.Kids) > most {
			t.Fatalf("a node has %d items, of at most %d", len(node.Kids), most)
		}
		for _, kid := range node.Kids {
			if kid < 0 || kid >= items+i {
				t.Fatalf("the node %d, of %d items, has %d", i, items, kid)
			}
			in[kid]++
		}
	}
	last := len(in) - 1
	for i, n := range in {
		if n != 1 && i != last || i == last && n != 0 {
			t.Fatalf("the item %d is in %d nodes", i, n)
		}
	}
	next := 0
	var through func(item int)
	through = func(item int) {
		if item >= items {
			for _, kid := range nodes[item-items].Kids {
				through(kid)
			}
		} else if item == next {
			next++
		}
	}
	if through(last); next != items {
		t.Fatalf("gone through, the item %d stands elsewhere", next)
	}
}

// TestLevelsZero asks P9.6 of levels that are all 0.
func TestLevelsZero(t *testing.T) {
	for _, most := range []int{2, 3, 4, 10, 1024} {
		for _, n := range []int{2, 3, 4, 5, 8, 9, 10, 11, 16, 17, 100, 101, 1024, 1025, 1026, 4000} {
			nodes := tiers(t, make([]int, n), most)
			next := 0
			for items := n; items > 1; items = (items + most - 1) / most {
				for range items / most {
					if len(nodes[next].Kids) != most {
						t.Fatalf("of %d items the node %d has %d kids, want %d", n, next, len(nodes[next].Kids), most)
					}
					next++
				}
				if left := items % most; left > 1 {
					if len(nodes[next].Kids) != left {
						t.Fatalf("of %d items the last node of a tier has %d kids, want %d", n, len(nodes[next].Kids), left)
					}
					next++
				}
			}
			if next != len(nodes) {
				t.Fatalf("of %d items there are %d nodes, want %d", n, len(nodes), next)
			}
		}
	}
}

func TestMostItems(t *testing.T) {
	r := rand.New(rand.NewSource(11))
	for i, levels := range rows(r, split.MaxItems) {
		most := []int{2, 1024}[i%2]
		checkNodes(t, levels, most, grouped(levels, most))
		checkTree(t, len(levels), 16, tiers(t, levels, 16))
	}
	for _, n := range []int{split.MaxItems + 1, 2 * split.MaxItems} {
		if l, e := split.Tiers(make([]int, n), 2); e != api.ErrArg || len(l) != 0 {
			t.Errorf("Tiers of %d items: %d nodes, %v", n, len(l), e)
		}
	}
}

func TestTiersRefused(t *testing.T) {
	for _, most := range []int{math.MinInt, -2, -1, 0, 1, 1025, 1026, 1 << 32, 1<<32 + 2, math.MaxInt} {
		for _, levels := range [][]int{nil, {0}, {0, 0}, {0, 33}, {1, 2, 3}} {
			if l, e := split.Tiers(levels, most); e != api.ErrArg || len(l) != 0 {
				t.Errorf("Tiers(%v, %d): %v, %v", levels, most, l, e)
			}
		}
	}
	for _, level := range []int{math.MinInt, -33, -1, 33, 34, 1 << 32, math.MaxInt} {
		for _, levels := range [][]int{{level}, {level, 0, 0}, {0, level, 0}, {0, 0, level}} {
			if l, e := split.Tiers(levels, 2); e != api.ErrArg || len(l) != 0 {
				t.Errorf("Tiers(%v, 2): %v, %v", levels, l, e)
			}
		}
	}
	for _, level := range []int{0, 1, 31, 32} {
		checkNodes(t, []int{level, level}, 2, [][]int{{0, 1}})
		checkNodes(t, []int{level}, 1024, nil)
	}
}

// TestLevelsStay asks R3 of what is handed in: it is not changed, and what stands behind its end is not looked at.
func TestLevelsStay(t *testing.T) {
	all := []int{0, 1, 0, 0, 2, 0, 99, -1}
	before := slices.Clone(all)
	checkNodes(t, all[:6], 2, grouped(all[:6], 2))
	if !slices.Equal(all, before) {
		t.Errorf("the levels are %v, were %v", all, before)
	}
}

// TestKidsApart asks R3 of what is handed out: what is written into one list, or put behind it, shows nowhere else.
func TestKidsApart(t *testing.T) {
	levels := rows(rand.New(rand.NewSource(12)), 200)[0]
	want := grouped(levels, 4)
	for i := range want {
		nodes := tiers(t, levels, 4)
		for range 5 {
			nodes[i].Kids = append(nodes[i].Kids, -1)
		}
		for k := range nodes[i].Kids {
			nodes[i].Kids[k] = -1
		}
		for j, node := range nodes {
			if j != i && !slices.Equal(node.Kids, want[j]) {
				t.Fatalf("behind a change of the node %d the node %d is %v, want %v", i, j, node.Kids, want[j])
			}
		}
		checkNodes(t, levels, 4, want)
	}
}

func TestChunksApart(t *testing.T) {
	s := some(rand.New(rand.NewSource(13)), 500)
	want := chunks(reckoned(plan, s))
	l := cut(t, plan, s)
	for i := range l[:cap(l)] {
		l[:cap(l)][i] = split.Chunk{Size: -1, Level: -1}
	}
	if got := cut(t, plan, s); !slices.Equal(got, want) {
		t.Errorf("behind a change of an answer: %v, want %v", got, want)
	}
}

// TestTiersOfChunks puts a file's chunks together, as the layers above do.
func TestTiersOfChunks(t *testing.T) {
	s := some(rand.New(rand.NewSource(14)), 50000)
	levels := []int{}
	for _, c := range cut(t, plan, s) {
		levels = append(levels, c.Level)
	}
	checkNodes(t, levels, 16, grouped(levels, 16))
	checkTree(t, len(levels), 16, tiers(t, levels, 16))
}

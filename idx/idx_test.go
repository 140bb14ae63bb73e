package idx_test

import (
	"bytes"
	"crypto/sha256"
	"encoding/binary"
	"encoding/hex"
	"math"
	"math/rand"
	"slices"
	"strings"
	"testing"

	"muniment/api"
	"muniment/idx"
	"muniment/pack"
)

type (
	entry  = pack.Entry
	object = pack.Object
)

// What the tests reckon by the chapter's words and the library's means alone, of things that may be and of such as may not.

func number(n int) string { return string(binary.BigEndian.AppendUint32(nil, uint32(n))) }

func entryBytes(n entry) string {
	return string(n.Id[:]) + string([]byte{n.Kind}) + number(n.Off) + number(n.Size)
}

// bytesAsTheyStand is an index of entries in the order in which they are handed.
func bytesAsTheyStand(sum api.Id, l []entry) string {
	var b strings.Builder
	b.WriteString("mix1" + string(sum[:]) + number(len(l)))
	var with [256]int
	for _, n := range l {
		with[n.Id[0]]++
	}
	upTo := 0
	for _, n := range with {
		upTo += n
		b.WriteString(number(upTo))
	}
	for _, n := range l {
		b.WriteString(entryBytes(n))
	}
	return b.String()
}

func risen(l []entry) []entry {
	l = slices.Clone(l)
	slices.SortFunc(l, func(a, b entry) int { return bytes.Compare(a.Id[:], b.Id[:]) })
	return l
}

func indexBytes(sum api.Id, l []entry) string { return bytesAsTheyStand(sum, risen(l)) }

func mayBe(n entry) bool {
	return n.Kind >= 1 && n.Kind <= 5 && n.Off >= 4 && n.Off <= 1<<26 && n.Size >= 0 && n.Size <= 1<<21
}

func nameTwice(l []entry) bool {
	met := map[api.Id]bool{}
	for _, n := range l {
		met[n.Id] = true
	}
	return len(met) < len(l)
}

// readIndex is what an index's bytes say, and whether they are an index's: of each sum and entries there is one.
func readIndex(s string) (sum api.Id, l []entry, is bool) {
	if len(s) < 1064 || (len(s)-1064)%41 != 0 {
		return api.Id{}, nil, false
	}
	copy(sum[:], s[4:36])
	for rest := s[1064:]; rest != ""; rest = rest[41:] {
		n := entry{Kind: rest[32], Off: int(binary.BigEndian.Uint32([]byte(rest[33:37]))), Size: int(binary.BigEndian.Uint32([]byte(rest[37:41])))}
		copy(n.Id[:], rest)
		if !mayBe(n) {
			return api.Id{}, nil, false
		}
		l = append(l, n)
	}
	if len(l) > 65536 || nameTwice(l) || indexBytes(sum, l) != s {
		return api.Id{}, nil, false
	}
	return sum, l, true
}

func nameOf(o object) api.Id {
	head := binary.BigEndian.AppendUint64([]byte{o.Kind}, uint64(len(o.Payload)))
	return sha256.Sum256(append(head, o.Payload...))
}

func some(r *rand.Rand, n int) string {
	b := make([]byte, n)
	r.Read(b)
	return string(b)
}

// someId is a name; one in two has few first bytes, and one in four differs from others at its end alone.
func someId(r *rand.Rand) api.Id {
	var id api.Id
	switch r.Intn(4) {
	case 0:
		id[31] = byte(r.Intn(256))
	case 1:
		r.Read(id[:])
		id[0] = byte(255 * r.Intn(2))
	default:
		r.Read(id[:])
	}
	return id
}

func someEntry(r *rand.Rand) entry {
	return entry{Id: someId(r), Kind: uint8(1 + r.Intn(5)), Off: 4 + r.Intn(1<<26-3), Size: r.Intn(1<<21 + 1)}
}

// someEntries are at most n, no two of one name.
func someEntries(r *rand.Rand, n int) []entry {
	var l []entry
	met := map[api.Id]bool{}
	for range n {
		if x := someEntry(r); !met[x.Id] {
			met[x.Id] = true
			l = append(l, x)
		}
	}
	return l
}

// many are so many entries, in an order that is not that of their names.
func many(n int) []entry {
	l := make([]entry, n)
	for i := range l {
		l[i] = entry{Id: sha256.Sum256([]byte(number(i))), Kind: uint8(1 + i%5), Off: 4 + i*9, Size: i}
	}
	return l
}

func anEntry(id api.Id, kind uint8, off, size int) entry {
	return entry{Id: id, Kind: kind, Off: off, Size: size}
}

func anObject(kind uint8, payload string) object { return object{Kind: kind, Payload: payload} }

func plain(first ...byte) entry {
	n := entry{Kind: 1, Off: 4}
	copy(n.Id[:], first)
	return n
}

// fullOf are names of which each first byte has as many as there are others.
func fullOf(each int) []entry {
	var l []entry
	for first := range 256 {
		for i := range each {
			l = append(l, plain(byte(first), byte(i)))
		}
	}
	return l
}

func allOnes() api.Id { return api.Id([]byte(strings.Repeat("\xff", 32))) }

// lists are such as may be indexed: ordinary ones, and those at the edges.
func lists() [][]entry {
	top := entry{Id: allOnes(), Kind: 5, Off: 1 << 26, Size: 1 << 21}
	l := [][]entry{
		nil, {}, {plain()}, {top}, {plain(), top}, {top, plain()}, {plain(1), plain(0, 1), plain()}, {plain(255), plain(254, 255), plain(0, 255)},
		{plain(7, 3), plain(7, 1), plain(7, 2)}, {{Id: api.Id{31: 2}, Kind: 3, Off: 9}, {Id: api.Id{31: 1}, Kind: 3, Off: 9}, {Id: api.Id{31: 128}, Kind: 3, Off: 9}, {Id: api.Id{31: 127}, Kind: 3, Off: 9}},
		{plain(127), plain(128), plain(129)}, {anEntry(api.Id{1}, 1, 4, 0), anEntry(api.Id{2}, 2, 4, 0), anEntry(api.Id{3}, 3, 4, 0), anEntry(api.Id{4}, 4, 4, 0), anEntry(api.Id{5}, 5, 4, 0)}, fullOf(1), fullOf(3), many(300),
	}
	r := rand.New(rand.NewSource(1))
	for range 40 {
		l = append(l, someEntries(r, r.Intn(60)))
	}
	return l
}

func sums() []api.Id { return []api.Id{{}, {0: 9}, {31: 1}, allOnes(), sha256.Sum256(nil)} }

// badEntries are such as may not be, each for one reason, and some for more.
func badEntries() []entry {
	return []entry{
		{Kind: 0, Off: 4}, {Kind: 6, Off: 4}, {Kind: 7, Off: 4}, {Kind: 128, Off: 4}, {Kind: 255, Off: 4},
		{Kind: 1, Off: 3}, {Kind: 1}, {Kind: 1, Off: -1}, {Kind: 1, Off: -4}, {Kind: 1, Off: 1<<26 + 1}, {Kind: 1, Off: 1<<32 + 4}, {Kind: 1, Off: math.MaxInt}, {Kind: 1, Off: math.MinInt},
		{Kind: 1, Off: 4, Size: -1}, {Kind: 1, Off: 4, Size: 1<<21 + 1}, {Kind: 1, Off: 4, Size: 1 << 32}, {Kind: 1, Off: 4, Size: math.MaxInt}, {Kind: 1, Off: 4, Size: math.MinInt},
		{}, {Off: 3, Size: -1}, {Id: allOnes(), Kind: 6, Off: 1<<26 + 1, Size: 1<<21 + 1},
	}
}

func short(s string) string {
	if len(s) > 60 {
		return hex.EncodeToString([]byte(s[:60])) + ".."
	}
	return hex.EncodeToString([]byte(s))
}

func build(t *testing.T, sum api.Id, l []entry) string {
	t.Helper()
	s, e := idx.Build(sum, l)
	if e != api.OK {
		t.Fatalf("Build of %d entries: %v", len(l), e)
	}
	return s
}

func checkUnbuilt(t *testing.T, what string, l []entry, want api.Errno) {
	t.Helper()
	if s, e := idx.Build(api.Id{1}, l); s != "" || e != want {
		t.Errorf("%s: Build of %d entries: %d bytes, %v; want %v", what, len(l), len(s), e, want)
	}
}

func open(t *testing.T, s string) *idx.Index {
	t.Helper()
	x, e := idx.Open(s)
	if e != api.OK || x == nil {
		t.Fatalf("Open of %d bytes: %v", len(s), e)
	}
	return x
}

func checkUnopened(t *testing.T, what, s string) {
	t.Helper()
	if x, e := idx.Open(s); x != nil || e != api.ErrForm {
		t.Errorf("%s: Open of %d bytes %s: %v, want ErrForm", what, len(s), short(s), e)
	}
}

func checkFrom(t *testing.T, packed, want string) {
	t.Helper()
	if s, e := idx.From(packed); s != want || e != api.OK {
		t.Errorf("From(%s): %d bytes, %v; want %d", short(packed), len(s), e, len(want))
	}
}

func checkNotFrom(t *testing.T, what, packed string) {
	t.Helper()
	if s, e := idx.From(packed); s != "" || e != api.ErrForm {
		t.Errorf("%s: From(%s): %d bytes, %v; want ErrForm", what, short(packed), len(s), e)
	}
}

func checkAt(t *testing.T, x *idx.Index, i int, want entry, wantE api.Errno) {
	t.Helper()
	if n, e := x.At(i); n != want || e != wantE {
		t.Errorf("At(%d): %+v, %v; want %+v, %v", i, n, e, want, wantE)
	}
}

func checkFind(t *testing.T, x *idx.Index, id api.Id, want entry, wantE api.Errno) {
	t.Helper()
	if n, e := x.Find(id); n != want || e != wantE {
		t.Errorf("Find(%x): %+v, %v; want %+v, %v", id, n, e, want, wantE)
	}
}

func checkRange(t *testing.T, x *idx.Index, first uint8, wantFrom, wantTo int) {
	t.Helper()
	if from, to := x.Range(first); from != wantFrom || to != wantTo {
		t.Errorf("Range(%d): %d, %d; want %d, %d", first, from, to, wantFrom, wantTo)
	}
}

// checkTells asks of an index all that it tells, if it was built of these.
func checkTells(t *testing.T, x *idx.Index, sum api.Id, l []entry) {
	t.Helper()
	l = risen(l)
	if x.Pack() != sum || x.Len() != len(l) || !slices.Equal(x.All(), l) {
		t.Errorf("the pack is %x, with %d entries; want %x, %d", x.Pack(), x.Len(), sum, len(l))
	}
	for i, n := range l {
		checkAt(t, x, i, n, api.OK)
		checkFind(t, x, n.Id, n, api.OK)
	}
	for _, i := range []int{-1, -2, len(l), len(l) + 1, math.MaxInt, math.MinInt} {
		checkAt(t, x, i, entry{}, api.ErrArg)
	}
	from := 0
	for first := range 256 {
		to := from
		for to < len(l) && l[to].Id[0] == byte(first) {
			to++
		}
		checkRange(t, x, uint8(first), from, to)
		from = to
	}
	if from != len(l) {
		t.Errorf("the ranges end at %d of %d", from, len(l))
	}
}

// beside are names next to that of id, and such as are like it but for a byte.
func beside(id api.Id) []api.Id {
	up, down := id, id
	for i := 31; i >= 0; i-- {
		if up[i]++; up[i] != 0 {
			break
		}
	}
	for i := 31; i >= 0; i-- {
		if down[i]--; down[i] != 255 {
			break
		}
	}
	l := []api.Id{up, down, {id[0]}, {0: id[0], 31: 1}}
	for _, i := range []int{0, 1, 15, 31} {
		like := id
		like[i] ^= 1 << (i % 8)
		l = append(l, like)
	}
	return l
}

// The chapter's examples, row by row.

func TestExampleBuildOfNone(t *testing.T) {
	sum := api.Id{1, 2, 3}
	s := build(t, sum, nil)
	if len(s) != 1064 || s != "mix1"+string(sum[:])+strings.Repeat("\x00", 4+1024) {
		t.Errorf("Build of none: %d bytes, %s", len(s), short(s))
	}
}

func TestExampleBuildRefuses(t *testing.T) {
	n := entry{Id: api.Id{7}, Kind: 1, Off: 4, Size: 2}
	checkUnbuilt(t, "an entry twice", []entry{n, n}, api.ErrThere)
	checkUnbuilt(t, "Off 3", []entry{{Id: api.Id{7}, Kind: 1, Off: 3, Size: 2}}, api.ErrArg)
}

func TestExampleOpenRefuses(t *testing.T) {
	s := build(t, api.Id{1}, nil)
	checkUnopened(t, "a byte more", s+"x")
	s = build(t, api.Id{1}, []entry{plain(3, 1), plain(3, 2)})
	checkUnopened(t, "two entries changed about", s[:1064]+s[1105:]+s[1064:1105])
}

func TestExampleRanges(t *testing.T) {
	x := open(t, build(t, api.Id{1}, []entry{plain(0), plain(0, 1), plain(255)}))
	checkRange(t, x, 0, 0, 2)
	checkRange(t, x, 1, 2, 2)
	checkRange(t, x, 255, 2, 3)
}

func TestExampleFrom(t *testing.T) {
	o := object{Kind: api.KindBlob, Payload: "ab"}
	packed, _ := pack.Build([]object{o})
	s, e := idx.From(packed)
	if e != api.OK {
		t.Fatalf("From: %v", e)
	}
	checkFind(t, open(t, s), nameOf(o), entry{Id: nameOf(o), Kind: 1, Off: 4, Size: 2}, api.OK)
}

// P13.1

func TestMark(t *testing.T) {
	if idx.Mark != "mix1" {
		t.Errorf("Mark is %q", idx.Mark)
	}
}

// All bytes of an index of two entries, by hand.
func TestBytesByHand(t *testing.T) {
	id := func(first byte) string { return string([]byte{first}) + strings.Repeat("\x00", 31) }
	l := []entry{anEntry(api.Id{0xfe}, 5, 0x01020304, 0x0a0b0c), anEntry(api.Id{2}, 3, 0x10, 0x20)}
	want := "mix1" + id(9) + "\x00\x00\x00\x02" + strings.Repeat("\x00\x00\x00\x00", 2) + strings.Repeat("\x00\x00\x00\x01", 252) + strings.Repeat("\x00\x00\x00\x02", 2) +
		id(2) + "\x03\x00\x00\x00\x10\x00\x00\x00\x20" + id(0xfe) + "\x05\x01\x02\x03\x04\x00\x0a\x0b\x0c"
	if s := build(t, api.Id{9}, l); s != want {
		t.Errorf("Build: %d bytes, %s..%x", len(s), short(s), s[len(s)-82:])
	}
	checkTells(t, open(t, want), api.Id{9}, l)
}

func TestBuildIsTheChaptersBytes(t *testing.T) {
	for i, l := range lists() {
		for _, sum := range sums() {
			s := build(t, sum, l)
			if want := indexBytes(sum, l); s != want || len(s) != 1064+41*len(l) {
				t.Errorf("list %d: %d bytes, want %d", i, len(s), len(want))
			}
		}
	}
}

// packs are of objects, no two the same.
func packs() [][]object {
	l := [][]object{nil, {anObject(1, "")}, {anObject(1, "ab")}, {anObject(5, ""), anObject(4, ""), anObject(3, ""), anObject(2, ""), anObject(1, "")}, {anObject(1, "b"), anObject(1, "a"), anObject(2, "a")}, {anObject(1, strings.Repeat("x", 70000)), anObject(2, "behind it")}}
	r := rand.New(rand.NewSource(2))
	for range 30 {
		var objects []object
		for range r.Intn(40) {
			if o := anObject(uint8(1+r.Intn(5)), some(r, r.Intn(50))); !slices.Contains(objects, o) {
				objects = append(objects, o)
			}
		}
		l = append(l, objects)
	}
	return l
}

// checkPack asks whether From tells the index of a pack of these, and finds each where Read tells it.
func checkPack(t *testing.T, l []object) {
	t.Helper()
	packed, e := pack.Build(l)
	if e != api.OK {
		t.Fatalf("Build: %v", e)
	}
	var want []entry
	off := 4
	for _, o := range l {
		want = append(want, anEntry(nameOf(o), o.Kind, off, len(o.Payload)))
		off += 9 + len(o.Payload)
	}
	sum := api.Id(sha256.Sum256([]byte(packed)))
	checkFrom(t, packed, indexBytes(sum, want))
	x := open(t, indexBytes(sum, want))
	checkTells(t, x, sum, want)
	for i, o := range l {
		n, e := x.Find(nameOf(o))
		if got, f := pack.Read(packed, n.Off); got != o || e != api.OK || f != api.OK {
			t.Errorf("object %d is found at %d, where another one stands: %v, %v", i, n.Off, e, f)
		}
	}
}

func TestFromIsThePacksIndex(t *testing.T) {
	for _, l := range packs() {
		checkPack(t, l)
	}
}

func TestFromRefuses(t *testing.T) {
	packed, _ := pack.Build([]object{anObject(1, "ab"), anObject(2, "cd")})
	none, _ := pack.Build(nil)
	for at := range len(packed) {
		checkNotFrom(t, "cut short", packed[:at])
		checkNotFrom(t, "a byte turned", packed[:at]+string([]byte{packed[at] ^ 1})+packed[at+1:])
	}
	for _, s := range []string{"", "x", "mpk1", "mix1", packed + "x", "x" + packed, packed + packed, none + none, indexBytes(api.Id{}, nil), packed[4:]} {
		checkNotFrom(t, "no pack", s)
	}
}

func TestOpenOfWhatWasBuilt(t *testing.T) {
	for _, l := range lists() {
		for _, sum := range sums() {
			checkTells(t, open(t, indexBytes(sum, l)), sum, l)
		}
	}
}

// Open: what it refuses

func TestOpenRefusesCuts(t *testing.T) {
	for _, l := range [][]entry{nil, {plain(3)}, {plain(0), plain(255, 1), plain(255, 2)}} {
		s := indexBytes(api.Id{5}, l)
		for at := range len(s) {
			checkUnopened(t, "cut short", s[:at])
			checkUnopened(t, "without a byte", s[:at]+s[at+1:])
		}
		for _, more := range []string{"\x00", "x", s[:40], strings.Repeat("\x00", 41), entryBytes(plain(255, 3)), s} {
			checkUnopened(t, "something more behind it", s+more)
			checkUnopened(t, "something more ahead of it", more+s)
		}
	}
}

// Of one byte changed it says what a plainer reader says.
func TestOneByteTurned(t *testing.T) {
	l := []entry{anEntry(api.Id{2, 1}, 1, 4, 0), anEntry(api.Id{2, 3}, 5, 1<<26, 1<<21), anEntry(api.Id{200}, 3, 70000, 300)}
	s := indexBytes(api.Id{5}, l)
	opened := 0
	for at := range len(s) {
		for _, x := range []byte{1, 2, 3, 4, 128, 255} {
			turned := s[:at] + string([]byte{s[at] ^ x}) + s[at+1:]
			if sum, l, is := readIndex(turned); is {
				checkTells(t, open(t, turned), sum, l)
				opened++
			} else {
				checkUnopened(t, "a byte turned", turned)
			}
		}
	}
	if opened < 32*6 {
		t.Errorf("%d changed ones are indexes, and so are all with another sum", opened)
	}
}

func TestOpenRefusesEntries(t *testing.T) {
	good := plain(9)
	for _, n := range badEntries() {
		// In four bytes a number wraps, and may come to be one that may be.
		wrapped := anEntry(n.Id, n.Kind, int(uint32(n.Off)), int(uint32(n.Size)))
		if mayBe(wrapped) {
			continue
		}
		checkUnopened(t, "an entry that may not be", indexBytes(api.Id{}, []entry{n}))
		checkUnopened(t, "one behind others", indexBytes(api.Id{}, []entry{good, plain(9, 1), n}))
	}
	for _, off := range []int{0, 3, 1<<26 + 1, 1 << 31, 1<<31 + 4, 1<<32 - 1} {
		checkUnopened(t, "an Off that may not be", indexBytes(api.Id{}, []entry{{Kind: 1, Off: off}}))
	}
	for _, size := range []int{1<<21 + 1, 1 << 31, 1<<32 - 1} {
		checkUnopened(t, "a Size that may not be", indexBytes(api.Id{}, []entry{{Kind: 1, Off: 4, Size: size}}))
	}
}

func TestOpenRefusesOrder(t *testing.T) {
	a, b, c := plain(4, 1), plain(4, 2), plain(5)
	for _, l := range [][]entry{{b, a}, {c, a}, {a, c, b}, {b, a, c}, {c, b, a}, {a, a}, {a, b, b}, {c, c, c}, {a, {Id: a.Id, Kind: 2, Off: 30, Size: 9}}} {
		checkUnopened(t, "names that do not rise", bytesAsTheyStand(api.Id{}, l))
	}
}

func TestOpenRefusesFanOuts(t *testing.T) {
	s := indexBytes(api.Id{1}, []entry{plain(4, 1), plain(4, 2), plain(5)})
	for first := range 256 {
		at := 40 + 4*first
		for _, n := range []string{number(4), number(1), number(1 << 31), number(1<<32 - 1), "\x01\x00\x00\x00"} {
			checkUnopened(t, "another number in the fan-out", s[:at]+n+s[at+4:])
		}
	}
	for _, n := range []int{0, 1, 2, 4, 65536, 65537, 1 << 31, 1<<32 - 1} {
		checkUnopened(t, "another number of entries", s[:36]+number(n)+s[40:])
		checkUnopened(t, "another number of entries, and in the fan-out's end", s[:36]+number(n)+s[40:1060]+number(n)+s[1064:])
	}
}

func TestOpenRefusesMarks(t *testing.T) {
	s := indexBytes(api.Id{1}, []entry{plain(4, 1)})
	for _, mark := range []string{"mix0", "mix2", "Mix1", "mpk1", "mmx1", "\x00\x00\x00\x00", "1xim"} {
		checkUnopened(t, "another mark", mark+s[4:])
	}
	for _, x := range []string{"", "mix1", strings.Repeat("\x00", 1064), strings.Repeat("\xff", 1064+41), strings.Repeat("mix1", 500)} {
		checkUnopened(t, "no index", x)
	}
}

// change makes an index's bytes anyhow others; some of them stay an index.
func change(r *rand.Rand, s string) string {
	b := []byte(s)
	at := r.Intn(len(b))
	switch r.Intn(6) {
	case 0:
		b[at] = byte(r.Intn(256))
	case 1:
		b = b[:at]
	case 2:
		b = append(b, some(r, 1+r.Intn(50))...)
	case 3:
		b[4+r.Intn(32)]++
	case 4:
		if len(b) > 1064 {
			b[1064+r.Intn(len(b)-1064)] ^= 1 << r.Intn(8)
		}
	case 5:
		if len(b) >= 1064+82 {
			from := 1064 + 41*r.Intn((len(b)-1064)/41-1)
			b = slices.Concat(b[:from], b[from+41:from+82], b[from:from+41], b[from+82:])
		}
	}
	return string(b)
}

func TestIndexesAnyhowChanged(t *testing.T) {
	r := rand.New(rand.NewSource(3))
	opened := 0
	for range 3000 {
		s := change(r, indexBytes(someId(r), someEntries(r, r.Intn(8))))
		if sum, l, is := readIndex(s); is {
			checkTells(t, open(t, s), sum, l)
			opened++
		} else {
			checkUnopened(t, "anyhow changed", s)
		}
	}
	if opened < 300 || opened > 2700 {
		t.Errorf("%d of 3000 are indexes", opened)
	}
}

// P13.2

func TestNilIndex(t *testing.T) {
	var x *idx.Index
	for _, i := range []int{0, 1, -1, math.MaxInt, math.MinInt} {
		checkAt(t, x, i, entry{}, api.ErrNil)
	}
	for _, id := range sums() {
		checkFind(t, x, id, entry{}, api.ErrNil)
	}
	for first := range 256 {
		checkRange(t, x, uint8(first), 0, 0)
	}
	if x.Pack() != (api.Id{}) || x.Len() != 0 || len(x.All()) != 0 {
		t.Errorf("a nil index tells %x, %d, %v", x.Pack(), x.Len(), x.All())
	}
}

// Of an index that Open has not made nothing is promised but that no call panics.
func TestIndexMadeOtherwise(t *testing.T) {
	var x idx.Index
	checkTells(t, &x, api.Id{}, nil)
	checkFind(t, &x, api.Id{}, entry{}, api.ErrNone)
}

// P13.3

func label(sum, own api.Id) string {
	return "idx-" + hex.EncodeToString(sum[:]) + "-" + hex.EncodeToString(own[:]) + ".ix"
}

func TestLabelAndSums(t *testing.T) {
	ids := append(sums(), api.Id{0: 0xab, 15: 0xcd, 31: 0xef})
	r := rand.New(rand.NewSource(4))
	for range 20 {
		ids = append(ids, someId(r))
	}
	for _, sum := range ids {
		for _, own := range ids {
			s := idx.Label(sum, own)
			if s != label(sum, own) {
				t.Errorf("Label(%x, %x): %s", sum, own, s)
			}
			if a, b, e := idx.Sums(s); a != sum || b != own || e != api.OK {
				t.Errorf("Sums(%s): %x, %x, %v", s, a, b, e)
			}
		}
	}
}

func noLabels() []string {
	a, b := strings.Repeat("0123456789abcdef", 4), strings.Repeat("fedcba9876543210", 4)
	whole := "idx-" + a + "-" + b + ".ix"
	l := []string{"", "idx-", ".ix", "idx-.ix", "idx--.ix", "idx-ix", "-", a, a + "-" + b, "idx-" + a + ".ix", "idx-" + a + "-.ix", "idx--" + b + ".ix", "idx-" + a + b + ".ix", "idx-" + a + "--" + b + ".ix", "idx-" + a + "-" + b, a + "-" + b + ".ix",
		"idx-" + a + "_" + b + ".ix", "idx-" + a + "-" + b + "-" + a + ".ix", "idx-" + a + "-" + b + "-.ix", "idx--" + a + "-" + b + ".ix", "idx-" + a[1:] + "-" + b + ".ix", "idx-" + a + "-" + b[1:] + ".ix", "idx-" + a + "0-" + b[1:] + ".ix", "idx-" + a[1:] + "-0" + b + ".ix",
		"idx-" + a + "0-" + b + ".ix", "idx-" + a + "-" + b + "0.ix", strings.ToUpper(whole), "idx-" + strings.ToUpper(a) + "-" + b + ".ix", "idx-" + a + "-" + strings.ToUpper(b) + ".ix", "IDX-" + whole[4:], "idx-" + a + "-" + b + ".IX",
		"pack-" + a + ".pk", "midx-" + a + ".mx", "pack-" + a + "-" + b + ".ix", "m" + whole, "idx-" + whole, whole + ".ix", whole + "x", " " + whole, whole + "\n", whole + "\x00", "idx-" + a + "-" + b + ".mx", "idx-0x" + a[2:] + "-" + b + ".ix", "idx-" + strings.Repeat("é", 32) + "-" + b + ".ix"}
	for at := range len(whole) {
		for _, c := range []string{"F", "g", "/", ":", "`", "@", "\xff"} {
			l = append(l, whole[:at]+c+whole[at+1:])
		}
		l = append(l, whole[:at], whole[:at]+whole[at+1:])
	}
	return l
}

func TestSumsRefuses(t *testing.T) {
	for _, x := range noLabels() {
		if sum, own, e := idx.Sums(x); sum != (api.Id{}) || own != (api.Id{}) || e != api.ErrName {
			t.Errorf("Sums(%q): %x, %x, %v; want ErrName", x, sum, own, e)
		}
		if idx.Fits(x, "") {
			t.Errorf("%q fits", x)
		}
	}
}

func TestFits(t *testing.T) {
	// Whether the bytes are an index's is not asked: a label says a sum alone.
	s := indexBytes(api.Id{1}, []entry{plain(4)})
	texts := []string{"", "x", "mix1", s, s + "x", indexBytes(api.Id{2}, nil), strings.Repeat("z", 1000)}
	for i, s := range texts {
		own := api.Id(sha256.Sum256([]byte(s)))
		for _, sum := range append(sums(), own, api.Id{1}, api.Id{2}) {
			for j, other := range texts {
				if fits := idx.Fits(label(sum, own), other); fits != (i == j) {
					t.Errorf("whether the label of text %d fits text %d: %v", i, j, fits)
				}
			}
			if other := sha256.Sum256([]byte("another")); idx.Fits(label(own, other), s) {
				t.Errorf("text %d fits by the pack's sum", i)
			}
			whole := label(sum, own)
			for _, x := range []string{whole + "x", whole[1:], whole[:len(whole)-1], "pack-" + hex.EncodeToString(own[:]) + ".pk", hex.EncodeToString(own[:]), string(own[:]), "idx-" + hex.EncodeToString(own[:]) + ".ix", "idx-x-" + hex.EncodeToString(own[:]) + ".ix", strings.Replace(whole, "-", "_", 1)} {
				if idx.Fits(x, s) {
					t.Errorf("%q fits text %d", x, i)
				}
			}
		}
		whole := []byte(label(api.Id{1}, own))
		for at := 4 + 64 + 1; at < len(whole)-3; at++ {
			b := slices.Clone(whole)
			b[at] = "123456789abcdef0"[strings.IndexByte("0123456789abcdef", b[at])]
			if idx.Fits(string(b), s) {
				t.Errorf("%s fits text %d", b, i)
			}
		}
	}
}

// P13.4

func TestFoundAreNoOthers(t *testing.T) {
	for _, l := range lists() {
		x := open(t, build(t, api.Id{1}, l))
		checkTells(t, x, api.Id{1}, l)
		has := map[api.Id]entry{}
		for _, n := range l {
			has[n.Id] = n
		}
		ask := sums()
		for _, n := range l {
			ask = append(ask, beside(n.Id)...)
		}
		for first := range 256 {
			ask = append(ask, api.Id{byte(first)}, api.Id{0: byte(first), 31: 1})
		}
		for _, id := range ask {
			if n, isThere := has[id]; isThere {
				checkFind(t, x, id, n, api.OK)
			} else {
				checkFind(t, x, id, entry{}, api.ErrNone)
			}
		}
	}
}

// P13.5

func TestBuildInAnyOrder(t *testing.T) {
	r := rand.New(rand.NewSource(5))
	for i, l := range lists() {
		s := build(t, api.Id{1}, l)
		for range 5 {
			r.Shuffle(len(l), func(i, j int) { l[i], l[j] = l[j], l[i] })
			if build(t, api.Id{1}, l) != s {
				t.Errorf("list %d in another order has another index", i)
			}
		}
		x := open(t, s)
		if build(t, x.Pack(), x.All()) != s {
			t.Errorf("list %d: Build of All is another index", i)
		}
	}
}

// Errors and limits

func TestBuildRefusesEntries(t *testing.T) {
	good := plain(9)
	for i, n := range badEntries() {
		checkUnbuilt(t, "one that may not be", []entry{n}, api.ErrArg)
		checkUnbuilt(t, "behind another one", []entry{good, n}, api.ErrArg)
		checkUnbuilt(t, "ahead of another one", []entry{n, good}, api.ErrArg)
		n.Id = good.Id
		if s, e := idx.Build(api.Id{}, []entry{good, n}); s != "" || e != api.ErrArg {
			t.Errorf("bad entry %d, whose name is there: %v; want ErrArg", i, e)
		}
	}
}

func TestBuildRefusesEntryByEntry(t *testing.T) {
	good, bad := plain(9), entry{Id: api.Id{8}, Kind: 6, Off: 4}
	checkUnbuilt(t, "a name twice ahead of one that may not be", []entry{good, good, bad}, api.ErrThere)
	checkUnbuilt(t, "one that may not be ahead of a name twice", []entry{good, bad, good}, api.ErrArg)
	checkUnbuilt(t, "one that may not be ahead of all", []entry{bad, good, good}, api.ErrArg)
	checkUnbuilt(t, "one that may not be twice", []entry{bad, bad}, api.ErrArg)
}

func TestBuildRefusesNamesTwice(t *testing.T) {
	a := anEntry(api.Id{7}, 1, 4, 2)
	for _, b := range []entry{anEntry(api.Id{7}, 2, 4, 2), anEntry(api.Id{7}, 1, 5, 2), anEntry(api.Id{7}, 1, 4, 3), anEntry(api.Id{7}, 5, 1<<26, 1<<21)} {
		checkUnbuilt(t, "one name of unlike entries", []entry{a, b}, api.ErrThere)
		checkUnbuilt(t, "and others between them", []entry{plain(), a, plain(8), b, plain(9)}, api.ErrThere)
	}
	l := many(300)
	for _, at := range []int{0, 1, 150, 299} {
		checkUnbuilt(t, "the last one again", append(slices.Clone(l), l[at]), api.ErrThere)
	}
}

func TestLimitsOfAnEntry(t *testing.T) {
	for kind := range 256 {
		for _, off := range []int{3, 4, 5, 1<<26 - 1, 1 << 26, 1<<26 + 1} {
			for _, size := range []int{-1, 0, 1, 1<<21 - 1, 1 << 21, 1<<21 + 1} {
				n := anEntry(api.Id{1}, uint8(kind), off, size)
				if !mayBe(n) {
					checkUnbuilt(t, "an entry past a limit", []entry{n}, api.ErrArg)
				} else if s := build(t, api.Id{}, []entry{n}); s != indexBytes(api.Id{}, []entry{n}) {
					t.Errorf("Build of %+v: %s", n, short(s))
				} else {
					checkTells(t, open(t, s), api.Id{}, []entry{n})
				}
			}
		}
	}
}

func TestMostEntries(t *testing.T) {
	l := many(65537)
	full := l[:65536]
	s := build(t, api.Id{3}, full)
	if s != indexBytes(api.Id{3}, full) {
		t.Fatalf("Build of the most: %d bytes", len(s))
	}
	checkTells(t, open(t, s), api.Id{3}, full)
	checkFind(t, open(t, s), l[65536].Id, entry{}, api.ErrNone)

	checkUnbuilt(t, "one more", l, api.ErrArg)
	checkUnbuilt(t, "one more, which is there", append(slices.Clone(full), l[0]), api.ErrArg)
	checkUnbuilt(t, "one twice ahead of one more", append(append(slices.Clone(full[:65535]), l[0]), l[65536]), api.ErrThere)
	checkUnopened(t, "one more", indexBytes(api.Id{3}, l))
	checkUnopened(t, "one twice as many", indexBytes(api.Id{3}, many(2*65536)))
}

func TestMostObjectsOfAPack(t *testing.T) {
	l := make([]object, 65536)
	for i := range l {
		l[i] = anObject(uint8(1+i%5), number(i))
	}
	checkPack(t, l)
}

// The greatest pack: its last records stand as far behind as any can, and one of its payloads is the greatest.
func TestGreatestPack(t *testing.T) {
	var l []object
	for i := range 31 {
		l = append(l, anObject(1, strings.Repeat(string([]byte{byte('a' + i)}), 1<<21)))
	}
	l = append(l, anObject(1, strings.Repeat("Z", 1<<26-4-31*(9+1<<21)-9-9-10)), anObject(5, ""))
	if packed, _ := pack.Build(l); len(packed) != 1<<26 {
		t.Fatalf("the pack has %d bytes", len(packed))
	}
	checkPack(t, l)
}

// R2 and R3

func TestListsAreLeftAsTheyWere(t *testing.T) {
	room := []entry{plain(5), plain(3), plain(4), {Id: api.Id{1}, Kind: 9}, plain(5)}
	was := slices.Clone(room)
	s := build(t, api.Id{1}, room[:3])
	if s != indexBytes(api.Id{1}, was[:3]) || !slices.Equal(room, was) {
		t.Errorf("Build reads or writes the list: %v", room)
	}
	clear(room)
	if s != indexBytes(api.Id{1}, was[:3]) {
		t.Error("Build keeps the list")
	}
}

func TestAnswersAreApart(t *testing.T) {
	l := []entry{plain(5), plain(3), plain(4)}
	s := build(t, api.Id{1}, l)
	x, y := open(t, s), open(t, s)
	all, other := x.All(), x.All()
	for _, n := range all[3:cap(all)] {
		if n != (entry{}) {
			t.Errorf("behind the entries stands %+v", n)
		}
	}
	clear(all[:cap(all)])
	if !slices.Equal(other, risen(l)) {
		t.Errorf("another answer was written over: %v", other)
	}
	checkTells(t, x, api.Id{1}, l)
	checkTells(t, y, api.Id{1}, l)
	checkTells(t, open(t, build(t, api.Id{2}, l[:2])), api.Id{2}, l[:2])
	checkTells(t, x, api.Id{1}, l)
}

// Whatever the bytes: Open takes just the indexes, and whatever is told is what a plainer reader tells.
func FuzzOpen(f *testing.F) {
	for _, l := range [][]entry{nil, {plain(4)}, {plain(4), plain(4, 1), plain(255)}} {
		s := indexBytes(api.Id{1}, l)
		f.Add([]byte(s))
		f.Add([]byte(s[:len(s)-1]))
		f.Add([]byte(s + "x"))
	}
	f.Add([]byte(bytesAsTheyStand(api.Id{}, []entry{plain(5), plain(4)})))
	f.Add([]byte("mix1"))
	f.Fuzz(func(t *testing.T, data []byte) {
		s := string(data)
		sum, l, is := readIndex(s)
		if !is {
			checkUnopened(t, "any bytes", s)
			return
		}
		checkTells(t, open(t, s), sum, l)
		if build(t, sum, l) != s {
			t.Errorf("Build of All is another index")
		}
	})
}

// Whatever the label: the sums that it says have that label.
func FuzzSums(f *testing.F) {
	f.Add(label(api.Id{1}, api.Id{2}), "x")
	f.Add("idx-.ix", "")
	f.Fuzz(func(t *testing.T, x, s string) {
		sum, own, e := idx.Sums(x)
		if e == api.OK && label(sum, own) != x || e != api.OK && (e != api.ErrName || sum != (api.Id{}) || own != (api.Id{})) {
			t.Errorf("Sums(%q): %x, %x, %v", x, sum, own, e)
		}
		if fits := idx.Fits(x, s); fits != (e == api.OK && own == sha256.Sum256([]byte(s))) {
			t.Errorf("Fits(%q, %q): %v", x, s, fits)
		}
	})
}

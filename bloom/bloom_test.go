package bloom_test

import (
	"crypto/sha256"
	"encoding/binary"
	"encoding/hex"
	"maps"
	"math"
	"math/rand"
	"slices"
	"strings"
	"testing"

	"muniment/api"
	"muniment/bloom"
)

// What the tests reckon by the chapter's words and the library's means alone, of sizes that may be and of such as may not.

type size struct{ bits, hashes int }

func places(z size, id api.Id) []int {
	var l []int
	for i := range z.hashes {
		l = append(l, int(uint64(binary.BigEndian.Uint32(id[4*i:4*i+4]))%uint64(z.bits)))
	}
	return l
}

// placesOf are the places that are set behind these names.
func placesOf(z size, ids []api.Id) map[int]bool {
	set := map[int]bool{}
	for _, id := range ids {
		for _, at := range places(z, id) {
			set[at] = true
		}
	}
	return set
}

func had(z size, set map[int]bool, id api.Id) bool {
	for _, at := range places(z, id) {
		if !set[at] {
			return false
		}
	}
	return true
}

func headBytes(bits, hashes uint64) string {
	return "MBF1" + string(binary.AppendUvarint(binary.AppendUvarint(nil, bits), hashes))
}

func filterBytes(z size, set map[int]bool) string {
	b := make([]byte, z.bits/8)
	for at := range set {
		b[at/8] += 1 << (at % 8)
	}
	return headBytes(uint64(z.bits), uint64(z.hashes)) + string(b)
}

// readFilter is what a filter's bytes say, and whether they are a filter's: of each size and places there is one.
func readFilter(s string) (z size, set map[int]bool, is bool) {
	for _, z := range sizes() {
		rest, isHead := strings.CutPrefix(s, headBytes(uint64(z.bits), uint64(z.hashes)))
		if !isHead || len(rest) != z.bits/8 {
			continue
		}
		set := map[int]bool{}
		for at := range z.bits {
			if rest[at/8]>>(at%8)%2 == 1 {
				set[at] = true
			}
		}
		return z, set, true
	}
	return size{}, nil, false
}

// sizes are all that there are.
func sizes() []size {
	var l []size
	for power := 6; power <= 24; power++ {
		for hashes := 1; hashes <= 8; hashes++ {
			l = append(l, size{1 << power, hashes})
		}
	}
	return l
}

// someSizes are small ones, with each number of hashes, and some others.
func someSizes() []size {
	l := []size{{1 << 24, 1}, {1 << 24, 8}, {1 << 23, 7}, {1 << 16, 3}}
	for hashes := 1; hashes <= 8; hashes++ {
		l = append(l, size{64, hashes}, size{128, hashes}, size{4096, hashes})
	}
	return l
}

func anId(begin ...byte) api.Id {
	var id api.Id
	copy(id[:], begin)
	return id
}

func allOnes() api.Id { return api.Id([]byte(strings.Repeat("\xff", 32))) }

// idAt is a name with so many of its eight numbers as given, the others noughts.
func idAt(numbers ...uint32) api.Id {
	var id api.Id
	for i, n := range numbers {
		binary.BigEndian.PutUint32(id[4*i:], n)
	}
	return id
}

// someId is a name; one in three has two places or more that are one.
func someId(r *rand.Rand) api.Id {
	var id api.Id
	r.Read(id[:])
	if r.Intn(3) == 0 {
		copy(id[4*r.Intn(8):][:4], id[4*r.Intn(8):][:4])
	}
	return id
}

func someIds(r *rand.Rand, n int) []api.Id {
	l := make([]api.Id, n)
	for i := range l {
		l[i] = someId(r)
	}
	return l
}

// lists are names to be added: ordinary ones, and those at the edges.
func lists() [][]api.Id {
	l := [][]api.Id{
		nil, {{}}, {allOnes()}, {{}, allOnes()}, {{}, {}}, {anId(0, 0, 0, 5)}, {anId(5, 0, 0, 0)}, {anId(0x80)}, {idAt(0, 1, 2, 3, 4, 5, 6, 7)}, {idAt(63, 64, 127, 128, 4095, 4096, 1<<24-1, 1<<24)},
		{idAt(1<<32-1, 0, 1<<31, 1<<31-1, 1<<16, 1<<8, 1, 2)}, {idAt(7, 7, 7, 7, 7, 7, 7, 7)}, {idAt(8, 9, 10, 11, 12, 13, 14, 15), idAt(15, 16, 17, 18, 19, 20, 21, 22)},
	}
	r := rand.New(rand.NewSource(1))
	for range 12 {
		l = append(l, someIds(r, r.Intn(40)))
	}
	return l
}

func short(s string) string {
	if len(s) > 60 {
		return hex.EncodeToString([]byte(s[:60])) + ".."
	}
	return hex.EncodeToString([]byte(s))
}

func empty(t *testing.T, z size) *bloom.Filter {
	t.Helper()
	f, e := bloom.New(z.bits, z.hashes)
	if e != api.OK || f == nil {
		t.Fatalf("New%v: %v", z, e)
	}
	return f
}

func with(t *testing.T, z size, ids []api.Id) *bloom.Filter {
	t.Helper()
	f := empty(t, z)
	for _, id := range ids {
		if e := f.Add(id); e != api.OK {
			t.Fatalf("Add(%x): %v", id, e)
		}
	}
	return f
}

func encode(t *testing.T, f *bloom.Filter) string {
	t.Helper()
	s, e := f.Encode()
	if e != api.OK {
		t.Fatalf("Encode: %v", e)
	}
	return s
}

func decode(t *testing.T, s string) *bloom.Filter {
	t.Helper()
	f, e := bloom.Decode(s)
	if e != api.OK || f == nil {
		t.Fatalf("Decode of %d bytes %s: %v", len(s), short(s), e)
	}
	return f
}

func join(t *testing.T, f, o *bloom.Filter) {
	t.Helper()
	if e := f.Join(o); e != api.OK {
		t.Fatalf("Join: %v", e)
	}
}

func checkUndecoded(t *testing.T, what, s string) {
	t.Helper()
	if f, e := bloom.Decode(s); f != nil || e != api.ErrForm {
		t.Errorf("%s: Decode of %d bytes %s: %v, want ErrForm", what, len(s), short(s), e)
	}
}

func checkHas(t *testing.T, f *bloom.Filter, id api.Id, want bool) {
	t.Helper()
	if has := f.Has(id); has != want {
		t.Errorf("Has(%x): %v, want %v", id, has, want)
	}
}

// checkTells asks of a filter all that it tells, if it is of that size and just these places are set.
func checkTells(t *testing.T, f *bloom.Filter, z size, set map[int]bool) {
	t.Helper()
	if bits, hashes := f.Size(); bits != z.bits || hashes != z.hashes {
		t.Errorf("the size is %d, %d; want %v", bits, hashes, z)
	}
	if f.Ones() != len(set) {
		t.Errorf("Ones: %d, want %d", f.Ones(), len(set))
	}
	if s := encode(t, f); s != filterBytes(z, set) {
		t.Errorf("Encode of %v: %s, want %s", z, short(s), short(filterBytes(z, set)))
	}
	for at := range set {
		checkHas(t, f, idAt(slices.Repeat([]uint32{uint32(at)}, 8)...), true)
	}
}

// checkAsRead asks whether Decode says what a plainer reader says, and answers whether the bytes are a filter's.
func checkAsRead(t *testing.T, s string) bool {
	t.Helper()
	z, set, is := readFilter(s)
	if is {
		checkTells(t, decode(t, s), z, set)
	} else {
		checkUndecoded(t, "no filter's bytes", s)
	}
	return is
}

// beside are names like that of id but for one of its bits.
func beside(id api.Id) []api.Id {
	var l []api.Id
	for bit := range 256 {
		like := id
		like[bit/8] ^= 1 << (bit % 8)
		l = append(l, like)
	}
	return l
}

// The chapter's examples, one by one.

func TestExampleOnePlace(t *testing.T) {
	f := with(t, size{64, 1}, []api.Id{anId(0, 0, 0, 5)})
	r := rand.New(rand.NewSource(2))
	for range 100 {
		id := someId(r)
		copy(id[:], "\x00\x00\x00\x05")
		checkHas(t, f, id, true)
		copy(id[:], "\x00\x00\x00\x45")
		checkHas(t, f, id, true)
		copy(id[:], "\x00\x00\x00\x06")
		checkHas(t, f, id, false)
	}
	if f.Ones() != 1 {
		t.Errorf("Ones: %d", f.Ones())
	}
	if s := encode(t, f); s != "MBF1\x40\x01\x20\x00\x00\x00\x00\x00\x00\x00" {
		t.Errorf("Encode: %x", s)
	}
}

func checkFit(t *testing.T, n, wantBits, wantHashes int, wantE api.Errno) {
	t.Helper()
	if bits, hashes, e := bloom.Fit(n); bits != wantBits || hashes != wantHashes || e != wantE {
		t.Errorf("Fit(%d): %d, %d, %v; want %d, %d, %v", n, bits, hashes, e, wantBits, wantHashes, wantE)
	}
}

func checkNotNew(t *testing.T, bits, hashes int) {
	t.Helper()
	if f, e := bloom.New(bits, hashes); f != nil || e != api.ErrArg {
		t.Errorf("New(%d, %d): %v, want ErrArg", bits, hashes, e)
	}
}

func TestExampleSizes(t *testing.T) {
	checkFit(t, 0, 64, 7, api.OK)
	checkFit(t, 6, 64, 7, api.OK)
	checkFit(t, 7, 128, 7, api.OK)
	checkFit(t, 1<<20, 1<<24, 7, api.OK)
	checkNotNew(t, 65, 1)
	checkNotNew(t, 32, 1)
	checkNotNew(t, 64, 9)
}

func TestExampleRefused(t *testing.T) {
	s := "MBF1\x40\x01\x20\x00\x00\x00\x00\x00\x00\x00"
	checkUndecoded(t, "without the last one", s[:len(s)-1])
	checkUndecoded(t, "with one more", s+"\x00")
	checkUndecoded(t, "with 41 in the place of 40", "MBF1\x41"+s[5:])
	for _, any := range []string{s, "", "x", s + "x"} {
		checkCheck(t, "x", any, api.ErrName)
	}
}

// P14.1

func TestLimits(t *testing.T) {
	if bloom.MinBits != 64 || bloom.MaxBits != 16777216 || bloom.MaxHashes != 8 || bloom.MaxFit != 1048576 {
		t.Errorf("the limits are %d, %d, %d, %d", bloom.MinBits, bloom.MaxBits, bloom.MaxHashes, bloom.MaxFit)
	}
}

func TestNewOfEachSize(t *testing.T) {
	for _, z := range sizes() {
		f := empty(t, z)
		checkTells(t, f, z, nil)
		for _, id := range []api.Id{{}, allOnes(), anId(1), sha256.Sum256(nil)} {
			checkHas(t, f, id, false)
		}
	}
}

func TestNewRefuses(t *testing.T) {
	all := sizes()
	for bits := -70; bits < 5000; bits++ {
		for hashes := -2; hashes < 12; hashes++ {
			if !slices.Contains(all, size{bits, hashes}) {
				checkNotNew(t, bits, hashes)
			}
		}
	}
	edges := []int{math.MinInt, math.MinInt + 64, -1 << 24, -1 << 32, 0, 1<<24 - 1, 1<<24 + 1, 1 << 25, 1<<24 + 1<<23, 1 << 32, 1<<32 + 64, 1<<32 + 1, 1 << 62, math.MaxInt}
	for _, n := range edges {
		for _, good := range all {
			checkNotNew(t, n, good.hashes)
			checkNotNew(t, good.bits, n)
		}
		for _, other := range edges {
			checkNotNew(t, n, other)
		}
	}
	for _, good := range []int{64, 128, 1 << 24} {
		for _, hashes := range []int{-1, 0, 9, 16, 255, 256, 257, 264} {
			checkNotNew(t, good, hashes)
		}
		for wrong := range good {
			if wrong > 64 && wrong%1009 == 0 {
				checkNotNew(t, wrong, 1)
			}
		}
	}
}

func TestFitIsTheLeast(t *testing.T) {
	all := sizes()
	for n := range 1<<20 + 1 {
		bits, hashes, e := bloom.Fit(n)
		least := bits == 64 || bits/2 < 10*n
		if !slices.Contains(all, size{bits, 7}) || hashes != 7 || e != api.OK || bits < 10*n || !least {
			t.Fatalf("Fit(%d): %d, %d, %v", n, bits, hashes, e)
		}
	}
	for power := 6; power < 24; power++ {
		most := 1 << power / 10
		checkFit(t, most, 1<<power, 7, api.OK)
		checkFit(t, most+1, 2<<power, 7, api.OK)
	}
}

func TestFitRefuses(t *testing.T) {
	for _, n := range []int{-1, -2, -64, -1 << 20, 1<<20 + 1, 1 << 21, 1<<24 + 1, 1 << 31, 1 << 32, math.MaxInt, math.MaxInt / 10, math.MaxInt/10 + 1, math.MinInt, math.MinInt / 10} {
		checkFit(t, n, 0, 0, api.ErrArg)
	}
}

func TestAddSetsThePlaces(t *testing.T) {
	for _, z := range someSizes() {
		for _, l := range lists() {
			checkTells(t, with(t, z, l), z, placesOf(z, l))
		}
	}
}

// Each of a name's eight numbers tells a place just if there are so many hashes.
func TestEachHashTellsAPlace(t *testing.T) {
	for hashes := 1; hashes <= 8; hashes++ {
		z := size{1 << 24, hashes}
		id := idAt(0x01000001, 0x02010203, 0x03800000, 0xff7fffff, 0xfe00ff00, 0x00ff00ff, 0x10abcdef, 0xaaaaaaaa)
		want := []int{0x000001, 0x010203, 0x800000, 0x7fffff, 0x00ff00, 0xff00ff, 0xabcdef, 0xaaaaaa}[:hashes]
		set := map[int]bool{}
		for _, at := range want {
			set[at] = true
		}
		checkTells(t, with(t, z, []api.Id{id}), z, set)
	}
}

func TestEachPlaceOfAByte(t *testing.T) {
	for at := range 128 {
		s := encode(t, with(t, size{128, 1}, []api.Id{idAt(uint32(at))}))
		want := []byte("MBF1\x80\x01\x01" + strings.Repeat("\x00", 16))
		want[7+at/8] = 1 << (at % 8)
		if s != string(want) {
			t.Errorf("place %d: %x", at, s)
		}
	}
}

func TestHasIsAllPlaces(t *testing.T) {
	r := rand.New(rand.NewSource(3))
	for _, z := range someSizes() {
		for _, l := range lists() {
			f, set := with(t, z, l), placesOf(z, l)
			ask := someIds(r, 50)
			for _, id := range l[:min(2, len(l))] {
				ask = append(ask, beside(id)...)
			}
			for _, id := range append(ask, l...) {
				checkHas(t, f, id, had(z, set, id))
			}
		}
	}
}

// All places but one are no name, whichever it is.
func TestHasNotWithoutOnePlace(t *testing.T) {
	for hashes := 1; hashes <= 8; hashes++ {
		z := size{4096, hashes}
		id := idAt(10, 20, 30, 40, 50, 60, 70, 80)
		for lacks := range hashes {
			set := placesOf(z, []api.Id{id})
			delete(set, places(z, id)[lacks])
			checkHas(t, decode(t, filterBytes(z, set)), id, false)
		}
		checkHas(t, decode(t, filterBytes(z, placesOf(z, []api.Id{id}))), id, true)
	}
}

func TestJoinSetsThePlacesOfBoth(t *testing.T) {
	for _, z := range someSizes() {
		all := lists()
		for i, l := range all {
			m := all[(i+5)%len(all)]
			f, o := with(t, z, l), with(t, z, m)
			join(t, f, o)
			checkTells(t, f, z, placesOf(z, slices.Concat(l, m)))
			checkTells(t, o, z, placesOf(z, m))
			join(t, f, f)
			checkTells(t, f, z, placesOf(z, slices.Concat(l, m)))
		}
	}
}

func TestJoinRefusesUnlikeSizes(t *testing.T) {
	ids := []api.Id{sha256.Sum256(nil)}
	for _, y := range sizes() {
		if y.bits > 1<<12 {
			continue
		}
		for _, z := range sizes() {
			if z == y || z.bits > 1<<12 {
				continue
			}
			f, o := empty(t, y), with(t, z, ids)
			if e := f.Join(o); e != api.ErrArg || f.Ones() != 0 || o.Ones() != len(placesOf(z, ids)) {
				t.Errorf("%v joined to %v: %v, with %d ones", y, z, e, f.Ones())
			}
		}
	}
	for _, l := range [][2]size{{{1 << 24, 1}, {1 << 23, 1}}, {{1 << 24, 8}, {1 << 24, 7}}, {{64, 8}, {1 << 24, 8}}} {
		f, o := with(t, l[0], ids), with(t, l[1], ids)
		if e := f.Join(o); e != api.ErrArg {
			t.Errorf("%v joined to %v: %v", l[0], l[1], e)
		}
		checkTells(t, f, l[0], placesOf(l[0], ids))
		checkTells(t, o, l[1], placesOf(l[1], ids))
	}
}

func TestNilFilter(t *testing.T) {
	var none *bloom.Filter
	f := with(t, size{64, 2}, []api.Id{{}})
	for _, id := range []api.Id{{}, allOnes(), anId(1)} {
		if none.Add(id) != api.ErrNil || none.Has(id) {
			t.Errorf("a nil filter takes or has %x", id)
		}
	}
	if bits, hashes := none.Size(); bits != 0 || hashes != 0 || none.Ones() != 0 {
		t.Errorf("a nil filter tells %d, %d, %d", bits, hashes, none.Ones())
	}
	if none.Join(f) != api.ErrNil || f.Join(none) != api.ErrNil || none.Join(none) != api.ErrNil {
		t.Error("a nil filter is joined")
	}
	if s, e := none.Encode(); s != "" || e != api.ErrNil {
		t.Errorf("Encode of a nil filter: %q, %v", s, e)
	}
	checkTells(t, f, size{64, 2}, map[int]bool{0: true})
}

// Of a filter that this package's calls have not made nothing is promised but that no call panics.
func TestFilterMadeOtherwise(t *testing.T) {
	var zero bloom.Filter
	f := empty(t, size{64, 8})
	for _, id := range []api.Id{{}, allOnes()} {
		zero.Add(id)
		zero.Has(id)
	}
	zero.Size()
	zero.Ones()
	zero.Join(&zero)
	zero.Join(f)
	f.Join(&zero)
	zero.Encode()
	checkTells(t, f, size{64, 8}, nil)
}

// P14.2

func TestBytesByHand(t *testing.T) {
	for _, c := range []struct {
		z    size
		id   api.Id
		want string
	}{
		{size{64, 2}, idAt(0, 63), "MBF1\x40\x02\x01\x00\x00\x00\x00\x00\x00\x80"},
		{size{64, 8}, idAt(0, 1, 2, 3, 4, 5, 6, 7), "MBF1\x40\x08\xff\x00\x00\x00\x00\x00\x00\x00"},
		{size{128, 3}, idAt(8, 127, 128), "MBF1\x80\x01\x03\x01\x01" + strings.Repeat("\x00", 13) + "\x80"},
		{size{1 << 14, 1}, idAt(9), "MBF1\x80\x80\x01\x01\x00\x02" + strings.Repeat("\x00", 2046)},
		{size{1 << 24, 7}, idAt(1<<24-1, 0, 0, 0, 0, 0, 0, 5), "MBF1\x80\x80\x80\x08\x07\x01" + strings.Repeat("\x00", 1<<21-2) + "\x80"},
	} {
		if s := encode(t, with(t, c.z, []api.Id{c.id})); s != c.want {
			t.Errorf("Encode of %v: %d bytes, %s", c.z, len(s), short(s))
		}
		checkTells(t, decode(t, c.want), c.z, placesOf(c.z, []api.Id{c.id}))
	}
}

func TestDecodeOfEachSize(t *testing.T) {
	ids := someIds(rand.New(rand.NewSource(4)), 9)
	for _, z := range sizes() {
		checkTells(t, decode(t, filterBytes(z, placesOf(z, ids))), z, placesOf(z, ids))
	}
}

// Whatever the bits are: all of them may be set.
func TestDecodeOfFullOnes(t *testing.T) {
	for _, z := range []size{{64, 1}, {64, 8}, {4096, 3}} {
		set := map[int]bool{}
		for at := range z.bits {
			set[at] = true
		}
		f := decode(t, filterBytes(z, set))
		checkTells(t, f, z, set)
		for _, id := range someIds(rand.New(rand.NewSource(5)), 20) {
			checkHas(t, f, id, true)
		}
	}
	s := headBytes(1<<24, 8) + strings.Repeat("\xff", 1<<21)
	if f := decode(t, s); f.Ones() != 1<<24 || encode(t, f) != s {
		t.Errorf("Ones of all: %d", f.Ones())
	}
}

func TestDecodeRefusesCuts(t *testing.T) {
	for _, z := range []size{{64, 1}, {128, 7}, {1 << 14, 8}} {
		s := filterBytes(z, placesOf(z, []api.Id{allOnes(), anId(9)}))
		for at := range len(s) {
			checkUndecoded(t, "cut short", s[:at])
			checkUndecoded(t, "without a byte", s[:at]+s[at+1:])
		}
		for _, more := range []string{"\x00", "x", "\xff", strings.Repeat("\x00", 8), s} {
			checkUndecoded(t, "something more behind it", s+more)
			checkUndecoded(t, "something more ahead of it", more+s)
		}
	}
	s := headBytes(1<<24, 8) + strings.Repeat("\x00", 1<<21)
	decode(t, s)
	checkUndecoded(t, "the greatest, cut short", s[:len(s)-1])
	checkUndecoded(t, "the greatest, with one more", s+"\x00")
}

func TestDecodeRefusesSizes(t *testing.T) {
	bodies := []string{"", "\x00", strings.Repeat("\x00", 4), strings.Repeat("\x00", 8), strings.Repeat("\x00", 16)}
	for _, bits := range []uint64{0, 1, 2, 8, 16, 32, 63, 65, 72, 96, 127, 129, 192, 1<<24 - 1, 1<<24 + 1, 1<<24 + 8, 1 << 25, 1 << 31, 1 << 32, 1<<32 + 64, 1 << 63, 1<<63 + 64, 1<<64 - 64, 1<<64 - 1} {
		for _, hashes := range []uint64{0, 1, 7, 8, 9} {
			for _, body := range bodies {
				checkUndecoded(t, "other bits", headBytes(bits, hashes)+body)
			}
			if bits <= 1<<25 {
				checkUndecoded(t, "other bits, all there", headBytes(bits, hashes)+strings.Repeat("\x00", int(bits/8)))
				checkUndecoded(t, "other bits, all there, and a byte of some", headBytes(bits, hashes)+strings.Repeat("\x00", int(bits/8+1)))
			}
		}
	}
	for _, hashes := range []uint64{0, 9, 10, 16, 127, 128, 255, 256, 257, 264, 1 << 31, 1 << 32, 1<<32 + 1, 1 << 63, 1<<63 + 1, 1<<64 - 8, 1<<64 - 1} {
		for _, bits := range []uint64{64, 128, 1 << 24} {
			checkUndecoded(t, "other hashes", headBytes(bits, hashes)+strings.Repeat("\x00", int(bits/8)))
		}
	}
}

// Numbers that are not in their one form, or none.
func TestDecodeRefusesNumbers(t *testing.T) {
	body := strings.Repeat("\x00", 8)
	for _, head := range []string{"\xc0\x00\x01", "\xc0\x80\x00\x01", "\x40\x81\x00", "\x40\x88\x80\x00", "\xc0\x00\x81\x00", "\x80\x00\x01", "\x40\x80", "\x40\x80\x80", "\x01\x40", "\x00\x40\x01", "\x40\x00", "\x00\x00", "\xff\xff\xff\xff\xff\xff\xff\xff\xff\x01\x01", "\xff\xff\xff\xff\xff\xff\xff\xff\xff\x02\x01", "\xc0\x80\x80\x80\x80\x80\x80\x80\x80\x80\x00\x01", "\xc0\x80\x80\x80\x80\x80\x80\x80\x80\x02\x01", "\xff\xff\xff\xff\xff\xff\xff\xff\xff\xff\xff\xff"} {
		checkUndecoded(t, "other numbers", "MBF1"+head+body)
	}
	decode(t, "MBF1\x40\x01"+body)
	for _, s := range []string{"MBF1", "MBF1\x40", "MBF1\x40\x01", "MBF1\xc0", "MBF1\x40\x81", "MBF1\x80\x01", "MBF1\x80\x01\x01"} {
		checkUndecoded(t, "nothing behind it", s)
	}
}

func TestDecodeRefusesMarks(t *testing.T) {
	s := filterBytes(size{64, 1}, nil)
	for at := range 4 {
		for x := 1; x < 256; x++ {
			checkUndecoded(t, "another mark", s[:at]+string([]byte{s[at] ^ byte(x)})+s[at+1:])
		}
	}
	for _, mark := range []string{"", "MBF", "mbf1", "MBF0", "MBF2", "1FBM", "mix1", "mpk1", "\x00\x00\x00\x00", "MBF1MBF1", " MBF1", "MBF11"} {
		checkUndecoded(t, "another mark", mark+s[4:])
	}
	for _, x := range []string{"", "M", "MB", "MBF", "\x00", "\x00\x00\x00\x00", strings.Repeat("\x00", 14), strings.Repeat("\xff", 14), strings.Repeat("MBF1", 10)} {
		checkUndecoded(t, "no filter", x)
	}
}

// Of one byte changed it says what a plainer reader says.
func TestOneByteTurned(t *testing.T) {
	decoded := 0
	for _, z := range []size{{64, 1}, {64, 7}, {128, 2}, {256, 8}} {
		s := filterBytes(z, placesOf(z, []api.Id{sha256.Sum256(nil)}))
		for at := range len(s) {
			for x := 1; x < 256; x++ {
				turned := s[:at] + string([]byte{s[at] ^ byte(x)}) + s[at+1:]
				if checkAsRead(t, turned) {
					decoded++
				}
			}
		}
	}
	// All bits may be others, and one number of hashes another of eight.
	if decoded != (8+8+16+32)*255+4*7 {
		t.Errorf("%d changed ones are filters", decoded)
	}
}

func name(s string) string {
	sum := sha256.Sum256([]byte(s))
	return "bloom-" + hex.EncodeToString(sum[:]) + ".bf"
}

func checkCheck(t *testing.T, name, s string, want api.Errno) {
	t.Helper()
	if e := bloom.Check(name, s); e != want {
		t.Errorf("Check(%q, %s): %v, want %v", name, short(s), e, want)
	}
}

// texts are filters' bytes, and such as are none.
func texts() []string {
	z := size{64, 1}
	s := filterBytes(z, placesOf(z, []api.Id{anId(0, 0, 0, 5)}))
	return []string{s, filterBytes(z, nil), filterBytes(size{64, 2}, nil), filterBytes(size{4096, 7}, map[int]bool{9: true}), "", "x", "MBF1", s + "x", s[1:], s[:len(s)-1], "MBF1\x41" + s[5:], strings.Repeat("z", 1000), name(s)}
}

func TestName(t *testing.T) {
	if got := bloom.Name(""); got != "bloom-e3b0c44298fc1c149afbf4c8996fb92427ae41e4649b934ca495991b7852b855.bf" {
		t.Errorf("Name of no bytes: %s", got)
	}
	for _, s := range texts() {
		if got := bloom.Name(s); got != name(s) {
			t.Errorf("Name(%s): %s, want %s", short(s), got, name(s))
		}
	}
}

func TestCheck(t *testing.T) {
	for i, s := range texts() {
		for j, other := range texts() {
			want := api.ErrCorrupt
			if i == j {
				want = api.ErrForm
				if _, _, is := readFilter(s); is {
					want = api.OK
				}
			}
			checkCheck(t, name(s), other, want)
		}
	}
	for _, z := range someSizes() {
		s := filterBytes(z, placesOf(z, []api.Id{allOnes()}))
		checkCheck(t, name(s), s, api.OK)
		checkCheck(t, name(s), s[:len(s)-1], api.ErrCorrupt)
	}
}

// Names with another digit are files' names, but not that of the bytes.
func TestCheckRefusesDigits(t *testing.T) {
	s := texts()[0]
	for at := len("bloom-"); at < len("bloom-")+64; at++ {
		for _, c := range []byte("0123456789abcdef") {
			b := []byte(name(s))
			if b[at] != c {
				b[at] = c
				checkCheck(t, string(b), s, api.ErrCorrupt)
			}
		}
	}
	checkCheck(t, "bloom-"+strings.Repeat("0", 64)+".bf", s, api.ErrCorrupt)
	checkCheck(t, "bloom-"+strings.Repeat("f", 64)+".bf", "", api.ErrCorrupt)
}

func noNames(whole string) []string {
	digits := whole[6:70]
	l := []string{"", "x", "bloom-", ".bf", "bloom-.bf", "bloom.bf", "bloom-bf", digits, "bloom-" + digits, digits + ".bf", "bloom" + digits + ".bf", "bloom--" + digits + ".bf", "bloom-" + digits + "0.bf", "bloom-0" + digits + ".bf", "bloom-" + digits[1:] + ".bf", "bloom-" + digits[2:] + ".bf", "bloom-" + digits + "00.bf",
		"bloom-" + digits + "..bf", "bloom-" + digits + ".bf.bf", "bloom-" + whole, whole + "x", "x" + whole, " " + whole, whole + " ", whole + "\n", whole + "\x00", strings.ToUpper(whole), "bloom-" + strings.Repeat("F", 64) + ".bf", "Bloom-" + whole[6:], "bloom-" + digits + ".BF", "midx-" + digits + ".mx", "pack-" + digits + ".pk", "idx-" + digits + "-" + digits + ".ix", "bloom-" + digits + "-" + digits + ".bf", "bloom-" + digits + ".pk", "pack-" + digits + ".bf", "bloom-0x" + digits[2:] + ".bf", "bloom-" + strings.Repeat("é", 32) + ".bf"}
	for at := range len(whole) {
		for _, c := range []string{"F", "g", "/", ":", "`", "@", "\xff", "\x00"} {
			l = append(l, whole[:at]+c+whole[at+1:])
		}
		l = append(l, whole[:at], whole[:at]+whole[at+1:])
	}
	return l
}

func TestCheckRefusesNames(t *testing.T) {
	for _, s := range texts() {
		for _, x := range noNames(name(s)) {
			checkCheck(t, x, s, api.ErrName)
		}
	}
}

// P14.3

func TestNeverForgets(t *testing.T) {
	r := rand.New(rand.NewSource(6))
	for _, z := range someSizes() {
		f := empty(t, z)
		var added []api.Id
		for range 60 {
			id := someId(r)
			before := f.Ones()
			if e := f.Add(id); e != api.OK {
				t.Fatalf("Add: %v", e)
			}
			added = append(added, id)
			for _, id := range added {
				checkHas(t, f, id, true)
			}
			if n := f.Ones(); n < before || n > before+z.hashes || n > len(added)*z.hashes {
				t.Errorf("%v: %d ones behind %d names", z, n, len(added))
			}
		}
		g := with(t, z, someIds(r, 5))
		join(t, g, f)
		for _, id := range added {
			checkHas(t, g, id, true)
		}
	}
}

func TestNotHadWasNeverAdded(t *testing.T) {
	r := rand.New(rand.NewSource(7))
	for _, z := range someSizes() {
		added := someIds(r, 8)
		f := with(t, z, added)
		not := 0
		for range 300 {
			id := someId(r)
			if !f.Has(id) {
				not++
				if slices.Contains(added, id) {
					t.Errorf("%v: %x was added, and is not had", z, id)
				}
			}
		}
		// A filter that has all names would be right, too, and of no use.
		if z.bits >= 4096 && not < 250 {
			t.Errorf("%v: %d of 300 names are not had", z, not)
		}
	}
}

func TestBytesHangOnTheSet(t *testing.T) {
	r := rand.New(rand.NewSource(8))
	for _, z := range someSizes() {
		if z.bits > 1<<16 {
			continue
		}
		for i, l := range lists() {
			s := encode(t, with(t, z, l))
			for range 4 {
				other := append(slices.Clone(l), l[:len(l)/2]...)
				r.Shuffle(len(other), func(i, j int) { other[i], other[j] = other[j], other[i] })
				if encode(t, with(t, z, other)) != s {
					t.Errorf("%v: list %d in another order has other bytes", z, i)
				}
			}
		}
	}
}

func TestWithoutOnesHasNoName(t *testing.T) {
	r := rand.New(rand.NewSource(9))
	for _, z := range sizes() {
		for _, f := range []*bloom.Filter{empty(t, z), decode(t, filterBytes(z, nil))} {
			if f.Ones() != 0 {
				t.Errorf("%v: %d ones at first", z, f.Ones())
			}
			for _, id := range append(someIds(r, 5), api.Id{}, allOnes()) {
				checkHas(t, f, id, false)
			}
		}
	}
}

// P14.4

func TestDecodeOfEncode(t *testing.T) {
	r := rand.New(rand.NewSource(10))
	for _, z := range someSizes() {
		for _, l := range lists() {
			f := with(t, z, l)
			s := encode(t, f)
			g := decode(t, s)
			if encode(t, g) != s {
				t.Errorf("%v: Encode of Decode are other bytes", z)
			}
			for _, id := range append(someIds(r, 30), l...) {
				checkHas(t, g, id, f.Has(id))
			}
		}
	}
}

func TestJoinIsAddingBoth(t *testing.T) {
	r := rand.New(rand.NewSource(11))
	for _, z := range someSizes() {
		for range 5 {
			l, m := someIds(r, r.Intn(20)), someIds(r, r.Intn(20))
			f, o := with(t, z, l), with(t, z, m)
			was := encode(t, o)
			join(t, f, o)
			if encode(t, f) != encode(t, with(t, z, slices.Concat(l, m))) || encode(t, o) != was {
				t.Errorf("%v: Join is not as adding %d and %d names", z, len(l), len(m))
			}
		}
	}
}

// P14.5

func TestFiner(t *testing.T) {
	r := rand.New(rand.NewSource(12))
	hadByBoth := 0
	for hashes := 1; hashes <= 8; hashes++ {
		ids := someIds(r, 20)
		ask := someIds(r, 300)
		for _, id := range ids {
			ask = append(ask, id)
			ask = append(ask, beside(id)[:16]...)
		}
		var coarser []*bloom.Filter
		for _, bits := range []int{64, 128, 256, 1024, 4096, 1 << 16, 1 << 24} {
			f := with(t, size{bits, hashes}, ids)
			coarser = append(coarser, f)
			for _, id := range ask {
				if !f.Has(id) {
					continue
				}
				hadByBoth++
				for _, o := range coarser {
					checkHas(t, o, id, true)
				}
			}
		}
	}
	if hadByBoth < 8*7*20 {
		t.Errorf("%d names are had", hadByBoth)
	}
}

// A filter as large as Fit says takes the most names.
func TestMostNames(t *testing.T) {
	bits, hashes, e := bloom.Fit(bloom.MaxFit)
	if e != api.OK {
		t.Fatalf("Fit: %v", e)
	}
	z := size{bits, hashes}
	f := empty(t, z)
	set := make([]byte, bits/8)
	r := rand.New(rand.NewSource(13))
	ids := someIds(r, bloom.MaxFit)
	for _, id := range ids {
		f.Add(id)
		for _, at := range places(z, id) {
			set[at/8] |= 1 << (at % 8)
		}
	}
	if encode(t, f) != headBytes(1<<24, 7)+string(set) {
		t.Error("other bits are set")
	}
	for _, id := range ids {
		if !f.Has(id) {
			t.Fatalf("%x is not had", id)
		}
	}
}

// R2 and R3

func TestFiltersAreApart(t *testing.T) {
	z := size{128, 4}
	ids := someIds(rand.New(rand.NewSource(14)), 6)
	set := placesOf(z, ids[:1])
	f := with(t, z, ids[:1])
	s := encode(t, f)
	g, h, other := decode(t, s), decode(t, s), empty(t, z)
	join(t, other, f)
	all := []*bloom.Filter{f, g, h, other}
	for i, x := range all {
		x.Add(ids[i+1])
		grown := maps.Clone(set)
		maps.Copy(grown, placesOf(z, ids[i+1:i+2]))
		checkTells(t, x, z, grown)
		for _, later := range all[i+1:] {
			checkTells(t, later, z, set)
		}
	}
	if s != filterBytes(z, set) {
		t.Error("the bytes have changed with their filter")
	}
	checkTells(t, empty(t, z), z, nil)
	checkTells(t, decode(t, s), z, set)
}

// What is asked changes nothing.
func TestAskingChangesNothing(t *testing.T) {
	z := size{64, 3}
	ids := someIds(rand.New(rand.NewSource(15)), 50)
	f := with(t, z, ids[:2])
	was := encode(t, f)
	for _, id := range ids {
		f.Has(id)
	}
	f.Size()
	f.Ones()
	f.Join(nil)
	f.Join(with(t, size{64, 4}, ids))
	if encode(t, f) != was {
		t.Error("the filter has changed")
	}
}

// Whatever the bytes: Decode takes just the filters, and whatever is told is what a plainer reader tells.
func FuzzDecode(f *testing.F) {
	for _, s := range texts() {
		f.Add(s, "x")
		f.Add(s, name(s))
	}
	f.Fuzz(func(t *testing.T, s, file string) {
		if checkAsRead(t, s) {
			checkCheck(t, name(s), s, api.OK)
		} else {
			checkCheck(t, name(s), s, api.ErrForm)
		}
		if e := bloom.Check(file, s); file != name(s) && e != api.ErrName && e != api.ErrCorrupt {
			t.Errorf("Check(%q, %s): %v", file, short(s), e)
		}
	})
}

package pack_test

import (
	"crypto/sha256"
	"encoding/binary"
	"encoding/hex"
	"hash/crc32"
	"math"
	"math/rand"
	"slices"
	"strings"
	"testing"

	"muniment/api"
	"muniment/pack"
)

type (
	object = pack.Object
	entry  = pack.Entry
)

// What the tests reckon by the chapter's words and the library's means alone, of things that may be and of such as may not.

func number(n int) string { return string(binary.AppendUvarint(nil, uint64(n))) }

func framed(payload string) string {
	length := binary.BigEndian.AppendUint32(nil, uint32(len(payload)))
	crc := crc32.Update(crc32.ChecksumIEEE(length), crc32.IEEETable, []byte(payload))
	return string(binary.BigEndian.AppendUint32(length, crc)) + payload
}

func record(o object) string { return framed(string([]byte{o.Kind}) + o.Payload) }

func records(l ...object) string {
	var b strings.Builder
	for _, o := range l {
		b.WriteString(record(o))
	}
	return b.String()
}

func trailer(n int) string { return framed("\x00" + number(n)) }

func packed(l ...object) string { return "mpk1" + records(l...) + trailer(len(l)) }

func nameOf(o object) api.Id {
	head := binary.BigEndian.AppendUint64([]byte{o.Kind}, uint64(len(o.Payload)))
	return sha256.Sum256(append(head, o.Payload...))
}

// entriesFrom are those of objects whose records stand one behind the other from off on.
func entriesFrom(off int, l ...object) []entry {
	var all []entry
	for _, o := range l {
		all = append(all, entry{Id: nameOf(o), Kind: o.Kind, Off: off, Size: len(o.Payload)})
		off += 9 + len(o.Payload)
	}
	return all
}

// recordAt is the object whose record stands at the front of s, and whether one does.
func recordAt(s string) (object, bool) {
	if len(s) < 9 {
		return object{}, false
	}
	n := int(binary.BigEndian.Uint32([]byte(s[:4])))
	if n < 1 || n > 1<<21+1 || len(s) < 8+n || framed(s[8:8+n]) != s[:8+n] {
		return object{}, false
	}
	o := object{Kind: s[8], Payload: s[9 : 8+n]}
	return o, o.Kind >= 1 && o.Kind <= 5
}

// objectsIn are the objects that Salvage is to tell.
func objectsIn(s string) []object {
	rest, begins := strings.CutPrefix(s, "mpk1")
	var l []object
	for begins && len(l) < 65536 {
		o, is := recordAt(rest)
		if !is {
			break
		}
		l = append(l, o)
		rest = rest[9+len(o.Payload):]
	}
	return l
}

// isPack says whether s is one: of what stands in it there is one pack at most.
func isPack(s string) bool {
	l := objectsIn(s)
	return s == packed(l...) && len(s) <= 1<<26 && areApart(l)
}

func areApart(l []object) bool {
	met := map[object]bool{}
	for _, o := range l {
		met[o] = true
	}
	return len(met) == len(l)
}

func blob(payload string) object { return object{Kind: api.KindBlob, Payload: payload} }

// tiny are so many objects, no two the same, as small as they can be.
func tiny(n int) []object {
	l := make([]object, n)
	for i := range l {
		l[i] = object{Kind: uint8(1 + i%5), Payload: strings.TrimRight(string(binary.LittleEndian.AppendUint32(nil, uint32(i/5))), "\x00")}
	}
	return l
}

func some(r *rand.Rand, n int) string {
	b := make([]byte, n)
	r.Read(b)
	return string(b)
}

// anyOf are objects that may be, no two the same.
func anyOf(r *rand.Rand) []object {
	var l []object
	for range r.Intn(12) {
		o := object{Kind: uint8(1 + r.Intn(5)), Payload: some(r, r.Intn(40)*r.Intn(4))}
		if !slices.Contains(l, o) {
			l = append(l, o)
		}
	}
	return l
}

// lists are of objects that may stand in one pack: ordinary ones, and those in which a payload looks like what stands around it.
func lists() [][]object {
	ab := blob("ab")
	l := [][]object{
		nil, {}, {ab}, {blob("")}, {{Kind: api.KindCommit}}, {ab, blob("cd")}, {blob("cd"), ab}, {ab, blob("a"), blob("b"), blob("")},
		{{Kind: 1}, {Kind: 2}, {Kind: 3}, {Kind: 4}, {Kind: 5}}, {{5, "ab"}, {4, "ab"}, {3, "ab"}, {2, "ab"}, {1, "ab"}},
		{blob("\x00")}, {blob("\x00\x00"), blob("\x00")}, {blob("\x01ab"), ab}, {blob("mpk1")}, {blob(packed()), blob(packed(ab)), ab}, {blob(record(ab)), blob(trailer(0)), blob(trailer(1))},
		{blob(strings.Repeat("x", 126)), blob(strings.Repeat("x", 127)), blob(strings.Repeat("x", 128))}, {blob(strings.Repeat("\xff", 65536)), blob(strings.Repeat("\x00", 65535)), ab},
	}
	r := rand.New(rand.NewSource(1))
	for range 60 {
		l = append(l, anyOf(r))
	}
	return l
}

// badObjects are such as may not be.
func badObjects() []object {
	return []object{{}, {0, "x"}, {6, ""}, {6, "x"}, {7, ""}, {128, "x"}, {255, ""}, {1, strings.Repeat("x", 1<<21+1)}, {5, strings.Repeat("\x00", 1<<22)}, {0, strings.Repeat("x", 1<<21+1)}}
}

func short(s string) string {
	if len(s) > 100 {
		return hex.EncodeToString([]byte(s[:100])) + ".."
	}
	return hex.EncodeToString([]byte(s))
}

func build(t *testing.T, l []object) string {
	t.Helper()
	s, e := pack.Build(l)
	if e != api.OK {
		t.Fatalf("Build of %d objects: %v", len(l), e)
	}
	return s
}

func checkUnbuilt(t *testing.T, what string, l []object, want api.Errno) {
	t.Helper()
	if s, e := pack.Build(l); s != "" || e != want {
		t.Errorf("%s: Build of %d objects: %d bytes, %v; want %v", what, len(l), len(s), e, want)
	}
}

func checkScan(t *testing.T, what, s string, want []entry) {
	t.Helper()
	if l, e := pack.Scan(s); !slices.Equal(l, want) || e != api.OK {
		t.Errorf("%s: Scan(%s): %d entries, %v; want %d", what, short(s), len(l), e, len(want))
	}
}

func checkUnscanned(t *testing.T, what, s string) {
	t.Helper()
	if l, e := pack.Scan(s); len(l) != 0 || e != api.ErrForm {
		t.Errorf("%s: Scan(%s): %d entries, %v; want ErrForm", what, short(s), len(l), e)
	}
}

func checkSalvage(t *testing.T, what, s string, want []entry) {
	t.Helper()
	if l := pack.Salvage(s); !slices.Equal(l, want) {
		t.Errorf("%s: Salvage(%s): %d entries, want %d", what, short(s), len(l), len(want))
	}
}

func checkRead(t *testing.T, s string, off int, want object) {
	t.Helper()
	if o, e := pack.Read(s, off); o != want || e != api.OK {
		t.Errorf("Read(%s, %d): kind %d, %d bytes, %v", short(s), off, o.Kind, len(o.Payload), e)
	}
}

func checkUnread(t *testing.T, s string, off int, want api.Errno) {
	t.Helper()
	if o, e := pack.Read(s, off); o != (object{}) || e != want {
		t.Errorf("Read(%s, %d): kind %d, %d bytes, %v; want %v", short(s), off, o.Kind, len(o.Payload), e, want)
	}
}

func checkOne(t *testing.T, s string, want object) {
	t.Helper()
	if o, e := pack.One(s); o != want || e != api.OK {
		t.Errorf("One(%s): kind %d, %d bytes, %v", short(s), o.Kind, len(o.Payload), e)
	}
}

func checkNotOne(t *testing.T, s string) {
	t.Helper()
	if o, e := pack.One(s); o != (object{}) || e != api.ErrForm {
		t.Errorf("One(%s): kind %d, %d bytes, %v; want ErrForm", short(s), o.Kind, len(o.Payload), e)
	}
}

func checkSpan(t *testing.T, e entry, wantOff, wantN int) {
	t.Helper()
	if off, n := pack.Span(e); off != wantOff || n != wantN {
		t.Errorf("Span(%d, %d): %d, %d; want %d, %d", e.Off, e.Size, off, n, wantOff, wantN)
	}
}

// The chapter's examples, row by row.

func TestExampleBuildOfNone(t *testing.T) {
	if s := build(t, nil); s != "mpk1"+framed("\x00\x00") || len(s) != 14 {
		t.Errorf("Build of none: %s", short(s))
	}
}

func TestExampleBuildRefuses(t *testing.T) {
	checkUnbuilt(t, "the same one twice", []object{blob("ab"), blob("ab")}, api.ErrThere)
	checkUnbuilt(t, "a kind 6", []object{{Kind: 6}}, api.ErrArg)
}

func TestExampleScanAndSpan(t *testing.T) {
	l, e := pack.Scan(build(t, []object{blob("ab")}))
	if e != api.OK || len(l) != 1 || l[0].Off != 4 || l[0].Size != 2 || l[0].Kind != api.KindBlob || l[0].Id != nameOf(blob("ab")) {
		t.Fatalf("Scan: %+v, %v", l, e)
	}
	checkSpan(t, l[0], 4, 11)
}

func TestExampleScanRefuses(t *testing.T) {
	s := build(t, []object{blob("ab"), blob("cd")})
	checkUnscanned(t, "a byte more", s+"x")
	checkUnscanned(t, "nothing", "")
	checkSalvage(t, "without its last byte", s[:len(s)-1], entriesFrom(4, blob("ab"), blob("cd")))
}

func TestExampleReadAndOne(t *testing.T) {
	s := build(t, []object{blob("ab")})
	checkUnread(t, s, 0, api.ErrForm)
	checkUnread(t, s, -1, api.ErrArg)
	checkOne(t, s[4:15], blob("ab"))
}

// P11.1

func TestMark(t *testing.T) {
	if pack.Mark != "mpk1" {
		t.Errorf("Mark is %q", pack.Mark)
	}
}

func TestCheckOfEachKind(t *testing.T) {
	for kind := range 256 {
		want := api.ErrArg
		if kind >= 1 && kind <= 5 {
			want = api.OK
		}
		for _, payload := range []string{"", "x", strings.Repeat("\x00", 300)} {
			if e := pack.Check(object{uint8(kind), payload}); e != want {
				t.Errorf("Check of kind %d, %d bytes: %v, want %v", kind, len(payload), e, want)
			}
		}
	}
}

func TestCheckOfPayloads(t *testing.T) {
	for kind := uint8(1); kind <= 5; kind++ {
		for _, n := range []int{1<<21 - 1, 1 << 21} {
			if e := pack.Check(object{kind, strings.Repeat("x", n)}); e != api.OK {
				t.Errorf("Check of kind %d, %d bytes: %v", kind, n, e)
			}
		}
		for _, n := range []int{1<<21 + 1, 1 << 22} {
			if e := pack.Check(object{kind, strings.Repeat("x", n)}); e != api.ErrArg {
				t.Errorf("Check of kind %d, %d bytes: %v; want ErrArg", kind, n, e)
			}
		}
	}
	for i, o := range badObjects() {
		if e := pack.Check(o); e != api.ErrArg {
			t.Errorf("Check of bad object %d: %v", i, e)
		}
	}
}

func TestBuildIsTheChaptersBytes(t *testing.T) {
	for _, l := range lists() {
		if s := build(t, l); s != packed(l...) {
			t.Errorf("Build of %d objects: %s, want %s", len(l), short(s), short(packed(l...)))
		}
	}
	const byHand = "mpk1" + "\x00\x00\x00\x03"
	if s := build(t, []object{blob("ab")}); s[:8] != byHand || s[12:15] != "\x01ab" || s[15:19] != "\x00\x00\x00\x02" || s[23:] != "\x00\x01" {
		t.Errorf("Build of a blob: %s", short(s))
	}
}

func TestTrailersNumber(t *testing.T) {
	for _, n := range []int{0, 1, 2, 126, 127, 128, 129, 255, 256, 16383, 16384} {
		l := tiny(n)
		s := build(t, l)
		if !strings.HasSuffix(s, trailer(n)) || s != packed(l...) {
			t.Errorf("Build of %d objects ends with %s, want %s", n, short(s[max(0, len(s)-12):]), short(trailer(n)))
		}
		checkScan(t, "so many", s, entriesFrom(4, l...))
	}
}

func TestBuildRefusesObjects(t *testing.T) {
	a, b := blob("a"), blob("b")
	for _, bad := range badObjects() {
		checkUnbuilt(t, "alone", []object{bad}, api.ErrArg)
		checkUnbuilt(t, "first", []object{bad, a, b}, api.ErrArg)
		checkUnbuilt(t, "last", []object{a, b, bad}, api.ErrArg)
		checkUnbuilt(t, "twice", []object{bad, bad}, api.ErrArg)
		checkUnbuilt(t, "behind two of one name", []object{a, a, bad}, api.ErrThere)
		checkUnbuilt(t, "ahead of two of one name", []object{a, bad, a}, api.ErrArg)
	}
}

func TestBuildRefusesNamesTwice(t *testing.T) {
	a, b, c := blob("a"), blob("b"), object{api.KindTree, ""}
	for _, l := range [][]object{{a, a}, {a, b, a}, {b, a, a}, {c, a, b, c}, {a, a, a}, {c, c}, {a, b, b, a}} {
		checkUnbuilt(t, "two of one name", l, api.ErrThere)
		checkUnscanned(t, "two of one name", packed(l...))
		checkSalvage(t, "two of one name", packed(l...), entriesFrom(4, l...))
	}
	long := tiny(1000)
	for _, at := range []int{0, 1, 500, 999} {
		checkUnbuilt(t, "two of one name, far apart", append(slices.Clone(long), long[at]), api.ErrThere)
		checkUnscanned(t, "two of one name, far apart", packed(append(slices.Clone(long), long[at])...))
	}
}

func TestScanTellsEntries(t *testing.T) {
	for _, l := range lists() {
		checkScan(t, "a pack", packed(l...), entriesFrom(4, l...))
		checkSalvage(t, "a pack", packed(l...), entriesFrom(4, l...))
	}
}

// noPacks are bytes that are nearly packs, with the objects that Salvage tells of each.
func noPacks() []struct {
	what, s string
	left    []object
} {
	a, b, c := blob("a"), blob("bb"), object{api.KindCommit, ""}
	all := []object{a, b, c}
	whole, rs := packed(a, b, c), records(a, b, c)
	return []struct {
		what, s string
		left    []object
	}{
		{"nothing", "", nil}, {"the mark alone", "mpk1", nil}, {"a cut mark", "mpk", nil}, {"a trailer alone", trailer(0), nil}, {"records alone", rs, nil}, {"no mark", whole[4:], nil},
		{"another mark", "mpk2" + whole[4:], nil}, {"a great mark", "MPK1" + whole[4:], nil}, {"a mark later", "x" + whole, nil}, {"a byte 00 ahead", "\x00" + whole, nil}, {"two marks", "mpk1" + whole, nil},
		{"no trailer", "mpk1" + rs, all}, {"two trailers", whole + trailer(3), all}, {"a trailer first", "mpk1" + trailer(3) + rs, nil}, {"a trailer between", "mpk1" + record(a) + trailer(1) + record(b) + trailer(2), all[:1]},
		{"a number too small", "mpk1" + rs + trailer(2), all}, {"a number too great", "mpk1" + rs + trailer(4), all}, {"a number 0", "mpk1" + rs + trailer(0), all}, {"a number 1 of none", "mpk1" + trailer(1), nil},
		{"a number in a longer form", "mpk1" + rs + framed("\x00\x83\x00"), all}, {"a number of four bytes", "mpk1" + rs + framed("\x00\x00\x00\x00\x03"), all}, {"no number", "mpk1" + rs + framed("\x00"), all},
		{"something behind the number", "mpk1" + rs + framed("\x00\x03\x00"), all}, {"a number that is a record", "mpk1" + rs + framed("\x03"), []object{a, b, c, {3, ""}}}, {"a number of 2^64 and 3", "mpk1" + rs + framed("\x00\x83\x80\x80\x80\x80\x80\x80\x80\x80\x02"), all},
		{"a trailer of a byte 06", "mpk1" + rs + framed("\x06\x03"), all}, {"a trailer of a byte ff", "mpk1" + rs + framed("\xff\x03"), all}, {"an unframed trailer", "mpk1" + rs + "\x00\x03", all},
		{"a byte behind", whole + "x", all}, {"a byte 00 behind", whole + "\x00", all}, {"itself behind", whole + whole, all}, {"a record behind", whole + record(blob("d")), all}, {"an empty frame behind", whole + framed(""), all},
		{"a kind 0", "mpk1" + records(a, object{0, "x"}, c) + trailer(3), all[:1]}, {"a kind 6", "mpk1" + records(a, object{6, "x"}, c) + trailer(3), all[:1]}, {"a kind 255", "mpk1" + records(object{255, ""}, a) + trailer(2), nil},
		{"an empty frame", "mpk1" + record(a) + framed("") + trailer(1), all[:1]}, {"an empty frame that is counted", "mpk1" + record(a) + framed("") + trailer(2), all[:1]},
		{"a payload too long", "mpk1" + records(a, blob(strings.Repeat("x", 1<<21+1)), c) + trailer(3), all[:1]}, {"a byte between", "mpk1" + record(a) + "x" + records(b, c) + trailer(3), all[:1]}, {"one twice", "mpk1" + records(a, a) + trailer(2), []object{a, a}},
		{"one twice, counted once", "mpk1" + records(a, b, a) + trailer(2), []object{a, b, a}}, {"one twice, and the trailer of the first", "mpk1" + record(a) + trailer(1) + record(a), all[:1]},
	}
}

func TestScanRefuses(t *testing.T) {
	for _, x := range noPacks() {
		checkUnscanned(t, x.what, x.s)
		checkSalvage(t, x.what, x.s, entriesFrom(4, x.left...))
		if isPack(x.s) {
			t.Errorf("%s: the test itself takes it for a pack", x.what)
		}
	}
}

func TestSalvageStopsWhereNoneStands(t *testing.T) {
	a, b := blob("a"), blob("bb")
	for _, behind := range []string{"", "x", strings.Repeat("\x00", 50), strings.Repeat("\xff", 50), trailer(2), trailer(9) + record(a), framed("") + record(a), framed("\x00") + record(a), framed("\x06") + record(a), "x" + record(a), "mpk1", framed("\x01" + strings.Repeat("x", 1<<21+1))} {
		checkSalvage(t, "records and what is none", "mpk1"+records(a, b)+behind, entriesFrom(4, a, b))
		checkSalvage(t, "what is none alone", "mpk1"+behind, nil)
		checkSalvage(t, "no mark", behind, nil)
		checkSalvage(t, "no mark, and records", records(a, b)+behind, nil)
	}
}

// P11.2

func TestReadAtEachPlace(t *testing.T) {
	for _, l := range [][]object{nil, {blob("ab")}, {blob(""), {2, "x"}, {5, strings.Repeat("y", 30)}}, {blob(packed(blob("in"))), blob("out")}} {
		s := packed(l...)
		for off := range len(s) + 1 {
			if want, is := recordAt(s[off:]); is {
				checkRead(t, s, off, want)
			} else {
				checkUnread(t, s, off, api.ErrForm)
			}
		}
		for i, e := range entriesFrom(4, l...) {
			checkRead(t, s, e.Off, l[i])
		}
	}
}

func TestReadPlaces(t *testing.T) {
	for _, s := range []string{"", "x", "mpk1", packed(blob("ab")), record(blob("ab"))} {
		for _, off := range []int{-1, -2, math.MinInt, len(s) + 1, len(s) + 100, math.MaxInt - 3, math.MaxInt, math.MinInt32, 1 << 40} {
			checkUnread(t, s, off, api.ErrArg)
		}
		// The end itself is not past it; nothing stands there.
		checkUnread(t, s, len(s), api.ErrForm)
	}
}

func TestReadInAnyBytes(t *testing.T) {
	o := object{api.KindAttrs, "some"}
	for _, ahead := range []string{"", "x", "mpk1", "mpk2", strings.Repeat("\xff", 99), record(blob("y"))} {
		for _, behind := range []string{"", "x", trailer(7), record(o), strings.Repeat("\x00", 99)} {
			checkRead(t, ahead+record(o)+behind, len(ahead), o)
		}
	}
	for _, s := range []string{framed(""), trailer(0), trailer(1), framed("\x00"), framed("\x06"), framed("\xff\x01"), record(o)[:12], framed("\x01" + strings.Repeat("x", 1<<21+1))} {
		checkUnread(t, s, 0, api.ErrForm)
		checkUnread(t, "ahead"+s, 5, api.ErrForm)
		checkNotOne(t, s)
	}
}

func TestSpan(t *testing.T) {
	for _, n := range []int{0, 1, 2, 127, 128, 1<<21 - 1, 1 << 21} {
		for _, off := range []int{4, 15, 1 << 26} {
			checkSpan(t, entry{Id: api.Id{1}, Kind: 3, Off: off, Size: n}, off, len(record(blob(strings.Repeat("x", n)))))
		}
	}
	checkSpan(t, entry{}, 0, 9)
}

// An entry that stands in no pack may say any numbers: the sum stops at its type's end.
func TestSpanOfAnyNumbers(t *testing.T) {
	checkSpan(t, entry{Off: -1, Size: 3}, -1, 12)
	checkSpan(t, entry{Off: math.MaxInt, Size: math.MaxInt}, math.MaxInt, math.MaxInt)
	checkSpan(t, entry{Off: math.MinInt, Size: math.MaxInt - 8}, math.MinInt, math.MaxInt)
	checkSpan(t, entry{Off: 7, Size: math.MaxInt - 9}, 7, math.MaxInt)
	checkSpan(t, entry{Off: 7, Size: math.MaxInt - 10}, 7, math.MaxInt-1)
}

func TestOne(t *testing.T) {
	for _, l := range lists() {
		for _, o := range l {
			checkOne(t, record(o), o)
			for _, behind := range []string{"x", "\x00", trailer(1), record(o), record(blob("behind"))} {
				checkNotOne(t, record(o)+behind)
			}
			checkNotOne(t, "x"+record(o))
			checkNotOne(t, record(o)[1:])
			checkNotOne(t, "mpk1"+record(o))
			checkNotOne(t, packed(o))
			for cut := range min(len(record(o)), 200) {
				checkNotOne(t, record(o)[:cut])
			}
		}
	}
	for kind := range 256 {
		if o := (object{uint8(kind), "x"}); kind >= 1 && kind <= 5 {
			checkOne(t, record(o), o)
		} else {
			checkNotOne(t, record(o))
		}
	}
}

func TestOneByteOfARecordTurned(t *testing.T) {
	s := record(object{api.KindList, "payload"})
	for at := range len(s) {
		for turn := 1; turn < 256; turn++ {
			b := []byte(s)
			b[at] ^= byte(turn)
			checkNotOne(t, string(b))
			checkUnread(t, "mpk1"+string(b)+trailer(1), 4, api.ErrForm)
		}
	}
}

// P11.3

func TestLabelAndSum(t *testing.T) {
	ids := []api.Id{{}, {0: 1}, {31: 1}, {0: 0xab, 15: 0xcd, 31: 0xef}}
	r := rand.New(rand.NewSource(2))
	for range 100 {
		ids = append(ids, sha256.Sum256([]byte(some(r, 20))))
	}
	for _, id := range ids {
		label := pack.Label(id)
		if label != "pack-"+hex.EncodeToString(id[:])+".pk" {
			t.Errorf("Label(%x): %s", id, label)
		}
		if sum, e := pack.Sum(label); sum != id || e != api.OK {
			t.Errorf("Sum(%s): %x, %v", label, sum, e)
		}
	}
}

func noLabels() []string {
	digits := strings.Repeat("0123456789abcdef", 4)
	label := "pack-" + digits + ".pk"
	l := []string{"", "pack-", ".pk", "pack-.pk", "pack", digits, "pack-" + digits, digits + ".pk", label + ".pk", "pack-" + label, "x" + label, label + "x", " " + label, label + "\n", label + "\x00",
		strings.ToUpper(label), "pack-" + strings.ToUpper(digits) + ".pk", "Pack-" + digits + ".pk", "pack-" + digits + ".PK", "pack-" + digits + ".p", "pack-" + digits + "pk", "pack" + digits + ".pk", "pack_" + digits + ".pk",
		"par-" + digits + ".pk", "idx-" + digits + ".ix", "pack-" + digits + ".par", "pack-" + digits[1:] + ".pk", "pack-" + digits + "0.pk", "pack-" + digits + digits + ".pk", "pack-0x" + digits[2:] + ".pk", "pack-" + strings.Repeat("é", 32) + ".pk", "pack--" + digits[1:] + ".pk"}
	for at := range len(label) {
		for _, c := range []string{"F", "g", "/", ":", "`", "@", "\xff"} {
			l = append(l, label[:at]+c+label[at+1:])
		}
		l = append(l, label[:at], label[:at]+label[at+1:])
	}
	return l
}

func TestSumRefuses(t *testing.T) {
	for _, label := range noLabels() {
		if sum, e := pack.Sum(label); sum != (api.Id{}) || e != api.ErrName {
			t.Errorf("Sum(%q): %x, %v; want ErrName", label, sum, e)
		}
		if pack.Fits(label, "") {
			t.Errorf("%q fits", label)
		}
	}
}

func TestFits(t *testing.T) {
	// Whether the bytes are a pack's is not asked: a label says a sum alone.
	texts := []string{"", "x", "mpk1", packed(), packed(blob("ab")), packed(blob("ab")) + "x", strings.Repeat("z", 1000)}
	for i, s := range texts {
		sum := api.Id(sha256.Sum256([]byte(s)))
		for j, other := range texts {
			if fits := pack.Fits(pack.Label(sum), other); fits != (i == j) {
				t.Errorf("whether the label of text %d fits text %d: %v", i, j, fits)
			}
		}
		label := pack.Label(sum)
		for _, x := range []string{label + "x", label[:71], strings.ToUpper(label), hex.EncodeToString(sum[:]), string(sum[:]), label[5:], ""} {
			if pack.Fits(x, s) {
				t.Errorf("%q fits text %d", x, i)
			}
		}
		for at := 5; at < 69; at++ {
			b := []byte(label)
			b[at] = "123456789abcdef0"[strings.IndexByte("0123456789abcdef", b[at])]
			if pack.Fits(string(b), s) {
				t.Errorf("%s fits text %d", b, i)
			}
		}
	}
}

// P11.4 and P11.5

// checkThereAndBack asks of a list that is built all that follows from it.
func checkThereAndBack(t *testing.T, l []object) {
	t.Helper()
	s := build(t, l)
	entries, e := pack.Scan(s)
	if e != api.OK || len(entries) != len(l) {
		t.Fatalf("Scan of %d objects: %d, %v", len(l), len(entries), e)
	}
	var again []object
	for i, x := range entries {
		if x.Id != nameOf(l[i]) || x.Kind != l[i].Kind || x.Size != len(l[i].Payload) {
			t.Errorf("entry %d: %+v", i, x)
		}
		checkRead(t, s, x.Off, l[i])
		off, n := pack.Span(x)
		checkOne(t, s[off:off+n], l[i])
		o, _ := pack.Read(s, x.Off)
		again = append(again, o)
	}
	if build(t, again) != s {
		t.Errorf("Build of what Scan and Read tell of %d objects is another pack", len(l))
	}
	if !slices.Equal(pack.Salvage(s), entries) {
		t.Errorf("Salvage of a whole pack of %d objects tells other entries than Scan", len(l))
	}
}

func TestThereAndBack(t *testing.T) {
	for _, l := range lists() {
		checkThereAndBack(t, l)
	}
	checkThereAndBack(t, tiny(3000))
}

func TestCutShort(t *testing.T) {
	for _, l := range lists() {
		s := build(t, l)
		all := entriesFrom(4, l...)
		if len(s) > 2000 {
			continue
		}
		for cut := range len(s) {
			whole := 0
			for whole < len(all) && all[whole].Off+9+all[whole].Size <= cut {
				whole++
			}
			checkUnscanned(t, "a pack cut short", s[:cut])
			checkSalvage(t, "a pack cut short", s[:cut], all[:whole])
		}
	}
}

func TestOneByteOfAPackTurned(t *testing.T) {
	l := []object{blob("ab"), {api.KindTree, ""}, {api.KindCommit, "commit"}, blob(packed(blob("in")))}
	s := build(t, l)
	for at := range len(s) {
		for _, turn := range []byte{1, 2, 4, 7, 8, 16, 32, 64, 128, 255} {
			b := []byte(s)
			b[at] ^= turn
			checkUnscanned(t, "a pack with one byte turned", string(b))
			checkSalvage(t, "a pack with one byte turned", string(b), entriesFrom(4, objectsIn(string(b))...))
		}
	}
}

// Packs anyhow changed, piece by piece: what Scan and Salvage answer is what the chapter's words say of the bytes.
func TestPacksAnyhowChanged(t *testing.T) {
	r := rand.New(rand.NewSource(3))
	packs := 0
	for range 20000 {
		var pieces []string
		l := anyOf(r)
		for _, o := range l {
			pieces = append(pieces, record(o))
		}
		pieces = append(append([]string{"mpk1"}, pieces...), trailer(len(l)))
		for range r.Intn(3) {
			i, j := r.Intn(len(pieces)), r.Intn(len(pieces))
			switch r.Intn(5) {
			case 0:
				pieces[i], pieces[j] = pieces[j], pieces[i]
			case 1:
				pieces[i] = pieces[j]
			case 2:
				pieces[i] = ""
			case 3:
				pieces[i] = framed(some(r, r.Intn(4)))
			case 4:
				pieces[i] = trailer(r.Intn(13))
			}
		}
		s := strings.Join(pieces, "")
		want := entriesFrom(4, objectsIn(s)...)
		checkSalvage(t, "changed", s, want)
		if isPack(s) {
			packs++
			checkScan(t, "changed, and a pack", s, want)
		} else {
			checkUnscanned(t, "changed", s)
		}
	}
	if packs < 2000 || packs > 18000 {
		t.Errorf("%d of them are packs", packs)
	}
}

// Limits

func TestGreatestPayload(t *testing.T) {
	o := object{api.KindList, strings.Repeat("\x00", 1<<21-1) + "z"}
	checkThereAndBack(t, []object{o, blob("behind")})
	over := object{api.KindList, o.Payload + "z"}
	checkUnbuilt(t, "one byte too many", []object{over}, api.ErrArg)
	checkNotOne(t, record(over))
	checkUnread(t, record(over), 0, api.ErrForm)
	checkUnscanned(t, "one byte too many", packed(over))
	checkSalvage(t, "one byte too many", packed(blob("ahead"), over), entriesFrom(4, blob("ahead")))
}

func TestMostObjects(t *testing.T) {
	l := tiny(65537)
	most := l[:65536]
	s := build(t, most)
	if s != packed(most...) {
		t.Error("the pack of the most objects is another one")
	}
	entries := entriesFrom(4, most...)
	checkScan(t, "the most objects", s, entries)
	checkSalvage(t, "the most objects", s, entries)
	checkUnbuilt(t, "one more", l, api.ErrArg)
	checkUnbuilt(t, "one more, of a name that is there", append(slices.Clone(most), l[0]), api.ErrArg)
	twice := slices.Clone(l)
	twice[65535] = l[0]
	checkUnbuilt(t, "the last two of one name, and one more", twice, api.ErrThere)
	checkUnbuilt(t, "two of one name", twice[:65536], api.ErrThere)
	for _, n := range []int{65535, 65536, 65537} {
		checkUnscanned(t, "one more", "mpk1"+records(l...)+trailer(n))
		checkSalvage(t, "one more", "mpk1"+records(l...)+trailer(n), entries)
	}
	checkUnscanned(t, "a number less", "mpk1"+records(most...)+trailer(65535))
	checkUnscanned(t, "a number more", "mpk1"+records(most...)+trailer(65537))
}

// greatest are 32 objects whose pack has so many bytes more than MaxPack; the last of them is the smallest.
func greatest(over int) []object {
	var l []object
	for i := range 31 {
		l = append(l, object{uint8(1 + i%5), strings.Repeat(string(rune('a'+i)), 1<<21)})
	}
	return append(l, blob(strings.Repeat("Z", 1<<26+over-4-31*(9+1<<21)-9-10)))
}

func TestGreatestPack(t *testing.T) {
	t.Parallel()
	l := greatest(0)
	s := build(t, l)
	if len(s) != 1<<26 || s != packed(l...) {
		t.Errorf("the greatest pack has %d bytes", len(s))
	}
	checkScan(t, "the greatest pack", s, entriesFrom(4, l...))
	checkUnscanned(t, "the greatest pack, and a byte more", s+"x")
}

func TestPackTooGreat(t *testing.T) {
	t.Parallel()
	l := greatest(1)
	checkUnbuilt(t, "a byte too many", l, api.ErrArg)
	s := packed(l...)
	if len(s) != 1<<26+1 {
		t.Fatalf("the test's pack has %d bytes", len(s))
	}
	checkUnscanned(t, "a byte too many", s)
	checkSalvage(t, "a byte too many", s, entriesFrom(4, l...))
	checkRead(t, s, 4+31*(9+1<<21), l[31])
}

// Of a name that is there, and too much besides: the first error counts, object by object.
func TestPackTooGreatAndTwice(t *testing.T) {
	t.Parallel()
	l := greatest(0)[:31]
	checkUnbuilt(t, "one twice, which is too much", append(slices.Clone(l), l[0], blob("")), api.ErrArg)
	checkUnbuilt(t, "one twice, and one that is too much", []object{l[0], l[0], {}}, api.ErrThere)
}

// The trailer of 128 objects has a byte more than that of 127, and is reckoned in.
func TestGreatestPackWithALongerTrailer(t *testing.T) {
	t.Parallel()
	l := append(greatest(0)[:31], tiny(96)...)
	taken := len("mpk1") + len(records(l...)) + 9
	room := 1<<26 - taken - len(trailer(128))
	fits := append(slices.Clone(l), blob(strings.Repeat("Z", room)))
	if s := build(t, fits); len(s) != 1<<26 || !strings.HasSuffix(s, trailer(128)) {
		t.Errorf("the greatest pack of 128 has %d bytes", len(s))
	}
	checkUnbuilt(t, "a byte that the trailer of 127 would leave", append(slices.Clone(l), blob(strings.Repeat("Z", room+1))), api.ErrArg)
}

// The trailer is reckoned of as many objects as there are up to the one that is asked, not of all: here the last byte of room is filled by the 127th, so that it is refused for its name.
func TestGreatestPackUpToAnObject(t *testing.T) {
	t.Parallel()
	l := append(greatest(0)[:31], tiny(94)...)
	room := 1<<26 - len("mpk1") - len(records(l...)) - 2*9 - len(trailer(127))
	if room%2 != 0 {
		l[0].Payload = l[0].Payload[1:]
		room++
	}
	half := blob(strings.Repeat("Z", room/2))
	twice := append(l, half, half)
	if len(twice) != 127 || len(packed(twice...)) != 1<<26 {
		t.Fatalf("the test's pack has %d objects, %d bytes", len(twice), len(packed(twice...)))
	}
	checkUnbuilt(t, "one twice, which is not too much, and one more", append(twice, blob("")), api.ErrThere)
}

// R2 and R3

func TestListsAreLeftAsTheyWere(t *testing.T) {
	room := []object{blob("a"), {2, "b"}, {6, "behind the end"}, blob("a")}
	was := slices.Clone(room)
	s := build(t, room[:2])
	if s != packed(was[:2]...) || !slices.Equal(room, was) {
		t.Errorf("Build reads or writes behind the list's end: %s, %v", short(s), room)
	}
	room[0].Payload = "written over"
	if s != packed(was[:2]...) {
		t.Error("Build keeps the list")
	}
}

func TestAnswersAreApart(t *testing.T) {
	l := []object{blob("a"), blob("b"), blob("c")}
	s, want := packed(l...), entriesFrom(4, l...)
	scanned, _ := pack.Scan(s)
	other, _ := pack.Scan(s)
	salvaged := pack.Salvage(s)
	for _, answer := range [][]entry{scanned, salvaged} {
		for _, x := range answer[3:cap(answer)] {
			if x != (entry{}) {
				t.Errorf("behind an answer stands %+v", x)
			}
		}
		clear(answer[:cap(answer)])
	}
	if !slices.Equal(other, want) {
		t.Errorf("another answer was written over: %v", other)
	}
	checkScan(t, "asked again", s, want)
	checkSalvage(t, "asked again", s, want)
}

// Whatever the bytes: Scan takes just the packs, and whatever is told can be read, and is told of what is left.
func FuzzAnyBytes(f *testing.F) {
	for _, x := range noPacks() {
		if len(x.s) < 1000 {
			f.Add([]byte(x.s), 4)
		}
	}
	f.Add([]byte(packed(blob("ab"), object{3, ""})), 15)
	f.Add([]byte("mpk1\xff\xff\xff\xff\x00\x00\x00\x00\x01"), 5)
	f.Fuzz(func(t *testing.T, data []byte, off int) {
		s := string(data)
		want := entriesFrom(4, objectsIn(s)...)
		checkSalvage(t, "any bytes", s, want)
		if isPack(s) {
			checkScan(t, "any bytes", s, want)
		} else {
			checkUnscanned(t, "any bytes", s)
		}
		if off < 0 || off > len(s) {
			checkUnread(t, s, off, api.ErrArg)
			return
		}
		if o, is := recordAt(s[off:]); is {
			checkRead(t, s, off, o)
		} else {
			checkUnread(t, s, off, api.ErrForm)
		}
	})
}

package midx_test

import (
	"bytes"
	"crypto/sha256"
	"encoding/binary"
	"encoding/hex"
	"math/rand"
	"slices"
	"strings"
	"testing"

	"muniment/api"
	"muniment/idx"
	"muniment/midx"
	"muniment/pack"
)

type (
	entry = pack.Entry
	row   = midx.Row
)

// index is one that is to be merged: a pack and its entries, in any order.
type index struct {
	sum     api.Id
	entries []entry
}

// merged is what a merged index tells.
type merged struct {
	packs []api.Id
	rows  []row
}

// What the tests reckon by the chapter's words and the library's means alone, of things that may be and of such as may not.

func number(n int) string { return string(binary.BigEndian.AppendUint32(nil, uint32(n))) }

func numberAt(s string, at int) int { return int(binary.BigEndian.Uint32([]byte(s[at : at+4]))) }

func order(a, b api.Id) int { return bytes.Compare(a[:], b[:]) }

// mergedOf is the merged index of these: pack by pack, from the first on, each name that none ahead of it has.
func mergedOf(l []index) merged {
	l = slices.Clone(l)
	slices.SortFunc(l, func(a, b index) int { return order(a.sum, b.sum) })
	var m merged
	met := map[api.Id]bool{}
	for _, x := range l {
		m.packs = append(m.packs, x.sum)
		for _, n := range x.entries {
			if !met[n.Id] {
				m.rows = append(m.rows, row{Pack: x.sum, Entry: n})
			}
			met[n.Id] = true
		}
	}
	slices.SortFunc(m.rows, func(a, b row) int { return order(a.Entry.Id, b.Entry.Id) })
	return m
}

func headBytes(packs []api.Id) string {
	s := "mmx1" + number(len(packs))
	for _, sum := range packs {
		s += string(sum[:])
	}
	return s
}

func rowBytes(at int, n entry) string {
	return string(n.Id[:]) + number(at) + string([]byte{n.Kind}) + number(n.Off) + number(n.Size)
}

// bytesAsTheyStand are those of packs and rows in the order in which they are handed.
func bytesAsTheyStand(m merged) string {
	var b strings.Builder
	b.WriteString(headBytes(m.packs) + number(len(m.rows)))
	var with [256]int
	for _, x := range m.rows {
		with[x.Entry.Id[0]]++
	}
	upTo := 0
	for _, n := range with {
		upTo += n
		b.WriteString(number(upTo))
	}
	numbers := map[api.Id]int{}
	for at, sum := range m.packs {
		numbers[sum] = at
	}
	for _, x := range m.rows {
		b.WriteString(rowBytes(numbers[x.Pack], x.Entry))
	}
	return b.String()
}

func mayBe(n entry) bool {
	return n.Kind >= 1 && n.Kind <= 5 && n.Off >= 4 && n.Off <= 1<<26 && n.Size >= 0 && n.Size <= 1<<21
}

// takeRows are the rows that stand in s, and whether each may be; their order is not asked.
func takeRows(s string, packs []api.Id) (l []row, may bool) {
	for ; s != ""; s = s[45:] {
		n := entry{Id: api.Id([]byte(s[:32])), Kind: s[36], Off: numberAt(s, 37), Size: numberAt(s, 41)}
		at := numberAt(s, 32)
		if at >= len(packs) || !mayBe(n) {
			return nil, false
		}
		l = append(l, row{Pack: packs[at], Entry: n})
	}
	return l, true
}

func isFanOut(fan string, rows []row) bool {
	for first := range 256 {
		n := 0
		for _, x := range rows {
			if int(x.Entry.Id[0]) <= first {
				n++
			}
		}
		if numberAt(fan, 4*first) != n {
			return false
		}
	}
	return true
}

// readMerged is what a merged index's bytes say, and whether they are such.
func readMerged(s string) (m merged, is bool) {
	if len(s) < 8 || s[:4] != "mmx1" || numberAt(s, 4) > 4096 {
		return merged{}, false
	}
	behind := 8 + 32*numberAt(s, 4)
	if len(s) < behind+4+1024 || numberAt(s, behind) > 1<<20 || len(s) != behind+4+1024+45*numberAt(s, behind) {
		return merged{}, false
	}
	for at := 8; at < behind; at += 32 {
		m.packs = append(m.packs, api.Id([]byte(s[at:at+32])))
	}
	rows, may := takeRows(s[behind+4+1024:], m.packs)
	m.rows = rows
	for i := 1; i < len(m.packs); i++ {
		may = may && order(m.packs[i-1], m.packs[i]) < 0
	}
	for i := 1; i < len(rows); i++ {
		may = may && order(rows[i-1].Entry.Id, rows[i].Entry.Id) < 0
	}
	if !may || !isFanOut(s[behind+4:behind+4+1024], rows) {
		return merged{}, false
	}
	return m, true
}

func anEntry(id api.Id, kind uint8, off, size int) entry {
	return entry{Id: id, Kind: kind, Off: off, Size: size}
}

func plain(first ...byte) entry {
	n := entry{Kind: 1, Off: 4}
	copy(n.Id[:], first)
	return n
}

func allOnes() api.Id { return api.Id([]byte(strings.Repeat("\xff", 32))) }

func anIndex(sum api.Id, l ...entry) index { return index{sum: sum, entries: l} }

// someId is a name; one in two has few first bytes, and one in four differs from others at its end alone.
func someId(r *rand.Rand) api.Id {
	var id api.Id
	switch r.Intn(4) {
	case 0:
		id[31] = byte(r.Intn(256))
	case 1:
		r.Read(id[:])
		id[0] = byte(255 * r.Intn(2))
	default:
		r.Read(id[:])
	}
	return id
}

func someIds(r *rand.Rand, n int) []api.Id {
	l := make([]api.Id, n)
	for i := range l {
		l[i] = someId(r)
	}
	return l
}

func someEntry(r *rand.Rand, id api.Id) entry {
	return anEntry(id, uint8(1+r.Intn(5)), 4+r.Intn(1<<26-3), r.Intn(1<<21+1))
}

// someIndexes are at most n, of unlike packs, of whose names many stand in several of them.
func someIndexes(r *rand.Rand, n int) []index {
	names := someIds(r, 1+r.Intn(40))
	var l []index
	sums := map[api.Id]bool{}
	for range n {
		x := index{sum: someId(r)}
		met := map[api.Id]bool{}
		for range r.Intn(25) {
			if id := names[r.Intn(len(names))]; !met[id] {
				met[id] = true
				x.entries = append(x.entries, someEntry(r, id))
			}
		}
		if !sums[x.sum] {
			sums[x.sum] = true
			l = append(l, x)
		}
	}
	return l
}

// numbered are n names' entries from the one of that number on, in an order that is not that of their names.
func numbered(from, n int) []entry {
	l := make([]entry, n)
	for i := range l {
		l[i] = anEntry(sha256.Sum256([]byte(number(from+i))), uint8(1+i%5), 4+i*9, i)
	}
	return l
}

// manyPacks are so many, whose order is not that in which they stand; the i-th one has a name of its own, and one that all have.
func manyPacks(n int) []index {
	l := make([]index, n)
	for i := range l {
		sum := sha256.Sum256([]byte("pack" + number(i)))
		l[i] = anIndex(sum, anEntry(api.Id{'a'}, 1, 4+i, i), numbered(i, 1)[0])
	}
	return l
}

// lists are of indexes of unlike packs: ordinary ones, and those at the edges.
func lists() [][]index {
	top := anEntry(allOnes(), 5, 1<<26, 1<<21)
	ofEachKind := []entry{anEntry(api.Id{1}, 1, 4, 0), anEntry(api.Id{2}, 2, 4, 0), anEntry(api.Id{3}, 3, 4, 0), anEntry(api.Id{4}, 4, 4, 0), anEntry(api.Id{5}, 5, 4, 0)}
	l := [][]index{
		nil, {}, {anIndex(api.Id{})}, {anIndex(allOnes())}, {anIndex(api.Id{7}, plain())}, {anIndex(allOnes(), top)}, {anIndex(api.Id{}, top, plain())},
		{anIndex(api.Id{1}, ofEachKind...), anIndex(api.Id{2}, top)}, {anIndex(api.Id{2}), anIndex(api.Id{1})},
		{anIndex(api.Id{31: 2}, plain(9)), anIndex(api.Id{31: 1}, anEntry(api.Id{9}, 2, 5, 6))},
		{anIndex(api.Id{127}, plain(127)), anIndex(api.Id{128}, plain(128), anEntry(api.Id{127}, 3, 7, 8)), anIndex(api.Id{129}, plain(0), plain(255))},
		{anIndex(api.Id{3}, plain(7, 3), plain(7, 1)), anIndex(api.Id{1}, plain(7, 2)), anIndex(api.Id{2}, plain(7), plain(8))},
		{anIndex(api.Id{}, plain()), anIndex(allOnes(), plain()), anIndex(api.Id{1}, plain(), top)},
		{anIndex(api.Id{9}, numbered(0, 300)...), anIndex(api.Id{8}, numbered(200, 200)...), anIndex(api.Id{7}, numbered(350, 100)...)},
		manyPacks(300),
	}
	r := rand.New(rand.NewSource(1))
	for range 40 {
		l = append(l, someIndexes(r, r.Intn(9)))
	}
	return l
}

func short(s string) string {
	if len(s) > 60 {
		return hex.EncodeToString([]byte(s[:60])) + ".."
	}
	return hex.EncodeToString([]byte(s))
}

func build(t *testing.T, x index) string {
	t.Helper()
	s, e := idx.Build(x.sum, x.entries)
	if e != api.OK {
		t.Fatalf("the index of %d entries: %v", len(x.entries), e)
	}
	return s
}

func buildAll(t *testing.T, l []index) []string {
	t.Helper()
	var built []string
	for _, x := range l {
		built = append(built, build(t, x))
	}
	return built
}

func merge(t *testing.T, l []index) string {
	t.Helper()
	s, e := midx.Merge(buildAll(t, l))
	if e != api.OK {
		t.Fatalf("Merge of %d: %v", len(l), e)
	}
	return s
}

func checkUnmerged(t *testing.T, what string, l []string, want api.Errno) {
	t.Helper()
	if s, e := midx.Merge(l); s != "" || e != want {
		t.Errorf("%s: Merge of %d: %d bytes, %v; want %v", what, len(l), len(s), e, want)
	}
}

func open(t *testing.T, s string) *midx.Index {
	t.Helper()
	x, e := midx.Open(s)
	if e != api.OK || x == nil {
		t.Fatalf("Open of %d bytes %s: %v", len(s), short(s), e)
	}
	return x
}

func checkUnopened(t *testing.T, what, s string) {
	t.Helper()
	if x, e := midx.Open(s); x != nil || e != api.ErrForm {
		t.Errorf("%s: Open of %d bytes %s: %v, want ErrForm", what, len(s), short(s), e)
	}
}

func checkFind(t *testing.T, x *midx.Index, id api.Id, want row, wantE api.Errno) {
	t.Helper()
	if found, e := x.Find(id); found != want || e != wantE {
		t.Errorf("Find(%x): %+v, %v; want %+v, %v", id, found, e, want, wantE)
	}
}

// checkTells asks of a merged index all that it tells.
func checkTells(t *testing.T, x *midx.Index, m merged) {
	t.Helper()
	if !slices.Equal(x.Packs(), m.packs) {
		t.Errorf("Packs: %d, want %d", len(x.Packs()), len(m.packs))
	}
	if x.Len() != len(m.rows) || !slices.Equal(x.All(), m.rows) {
		t.Errorf("Len %d, and %d rows; want %d", x.Len(), len(x.All()), len(m.rows))
	}
	for _, n := range m.rows {
		checkFind(t, x, n.Entry.Id, n, api.OK)
	}
}

// checkAsRead asks whether Open says what a plainer reader says, and answers whether the bytes are a merged index's.
func checkAsRead(t *testing.T, s string) bool {
	t.Helper()
	m, is := readMerged(s)
	if is {
		checkTells(t, open(t, s), m)
	} else {
		checkUnopened(t, "no merged index", s)
	}
	return is
}

// beside are names next to that of id, and such as are like it but for a byte.
func beside(id api.Id) []api.Id {
	up, down := id, id
	for i := 31; i >= 0; i-- {
		if up[i]++; up[i] != 0 {
			break
		}
	}
	for i := 31; i >= 0; i-- {
		if down[i]--; down[i] != 255 {
			break
		}
	}
	l := []api.Id{up, down, {id[0]}, {0: id[0], 31: 1}}
	for _, i := range []int{0, 1, 15, 31} {
		like := id
		like[i] ^= 1 << (i % 8)
		l = append(l, like)
	}
	return l
}

// The chapter's examples, one by one.

func TestExampleMergeOfNone(t *testing.T) {
	for _, none := range [][]string{nil, {}} {
		s, e := midx.Merge(none)
		if s != "mmx1"+strings.Repeat("\x00", 4+4+1024) || e != api.OK {
			t.Errorf("Merge of none: %d bytes %s, %v", len(s), short(s), e)
		}
		if x := open(t, s); x.Len() != 0 || len(x.Packs()) != 0 || len(x.All()) != 0 {
			t.Errorf("of none it has %d rows, %d packs", x.Len(), len(x.Packs()))
		}
	}
}

func TestExampleTwo(t *testing.T) {
	n := api.Id{'n'}
	first, second := anIndex(api.Id{1}, anEntry(n, 1, 4, 5)), anIndex(api.Id{2}, anEntry(n, 2, 9, 6))
	for _, l := range [][]index{{first, second}, {second, first}} {
		checkFind(t, open(t, merge(t, l)), n, row{Pack: api.Id{1}, Entry: anEntry(n, 1, 4, 5)}, api.OK)
	}
	s := build(t, first)
	checkUnmerged(t, "an index twice", []string{s, s}, api.ErrThere)
	for _, other := range []string{"", "x", "mix1", "mmx1", s + "x", s[1:], merge(t, []index{first}), string(n[:])} {
		checkUnmerged(t, "any other text", []string{other}, api.ErrForm)
	}
}

func TestExampleOpenRefuses(t *testing.T) {
	s := merge(t, []index{anIndex(api.Id{1}, plain(4)), anIndex(api.Id{2}, plain(5))})
	checkUnopened(t, "a byte more", s+"\x00")
	checkUnopened(t, "a pack's number that there is not", strings.Replace(s, rowBytes(1, plain(5)), rowBytes(2, plain(5)), 1))
	checkUnopened(t, "two packs changed about", s[:8]+s[40:72]+s[8:40]+s[72:])
}

// P15.1

func TestMarkAndLimits(t *testing.T) {
	if midx.Mark != "mmx1" || midx.MaxPacks != 4096 || midx.MaxRows != 1048576 {
		t.Errorf("%q, %d, %d", midx.Mark, midx.MaxPacks, midx.MaxRows)
	}
}

// All bytes of two indexes' merged one, by hand.
func TestBytesByHand(t *testing.T) {
	id := func(first byte) string { return string([]byte{first}) + strings.Repeat("\x00", 31) }
	l := []index{
		anIndex(api.Id{0xee}, anEntry(api.Id{0xfe}, 5, 0x01020304, 0x0a0b0c), anEntry(api.Id{2}, 1, 0x11, 0x21)),
		anIndex(api.Id{9}, anEntry(api.Id{2}, 3, 0x10, 0x20)),
	}
	want := "mmx1\x00\x00\x00\x02" + id(9) + id(0xee) + "\x00\x00\x00\x02" +
		strings.Repeat("\x00\x00\x00\x00", 2) + strings.Repeat("\x00\x00\x00\x01", 252) + strings.Repeat("\x00\x00\x00\x02", 2) +
		id(2) + "\x00\x00\x00\x00\x03\x00\x00\x00\x10\x00\x00\x00\x20" + id(0xfe) + "\x00\x00\x00\x01\x05\x01\x02\x03\x04\x00\x0a\x0b\x0c"
	if s := merge(t, l); s != want {
		t.Errorf("Merge: %d bytes, %s..%x", len(s), short(s), s[len(s)-90:])
	}
	checkTells(t, open(t, want), mergedOf(l))
}

func TestMergeIsTheChaptersBytes(t *testing.T) {
	for i, l := range lists() {
		m := mergedOf(l)
		s := merge(t, l)
		if want := bytesAsTheyStand(m); s != want || len(s) != 1036+32*len(m.packs)+45*len(m.rows) {
			t.Errorf("list %d: %d bytes, want %d", i, len(s), len(want))
		}
		if !checkAsRead(t, s) {
			t.Errorf("list %d: no merged index's bytes", i)
		}
	}
}

// Bytes that Merge would never tell of these packs are taken as well: a pack may have no row, and any row may be of any pack.
func TestOpenOfBytesByHand(t *testing.T) {
	packs := []api.Id{{1}, {2}, {2, 1}, allOnes()}
	for at := range packs {
		m := merged{packs: packs, rows: []row{{packs[at], plain()}, {packs[3-at], plain(0, 1)}, {packs[at], anEntry(allOnes(), 5, 1<<26, 1<<21)}}}
		checkTells(t, open(t, bytesAsTheyStand(m)), m)
	}
	checkTells(t, open(t, bytesAsTheyStand(merged{packs: packs})), merged{packs: packs})
}

// name is a file's.
func name(s string) string {
	sum := sha256.Sum256([]byte(s))
	return "midx-" + hex.EncodeToString(sum[:]) + ".mx"
}

func checkCheck(t *testing.T, name, s string, want api.Errno) {
	t.Helper()
	if e := midx.Check(name, s); e != want {
		t.Errorf("Check(%q, %s): %v, want %v", name, short(s), e, want)
	}
}

// texts are merged indexes' bytes, and such as are none.
func texts() []string {
	l := []index{anIndex(api.Id{1}, plain(4)), anIndex(api.Id{2}, plain(5))}
	s, none := bytesAsTheyStand(mergedOf(l)), bytesAsTheyStand(merged{})
	return []string{s, none, bytesAsTheyStand(mergedOf(l[:1])), "", "x", "mmx1", s + "x", s[1:], s[:len(s)-1], none[:1035], "mmx2" + none[4:], s[:8] + s[40:72] + s[8:40] + s[72:], strings.Repeat("z", 1000), name(s)}
}

func TestName(t *testing.T) {
	if got := midx.Name(""); got != "midx-e3b0c44298fc1c149afbf4c8996fb92427ae41e4649b934ca495991b7852b855.mx" {
		t.Errorf("Name of no bytes: %s", got)
	}
	for _, s := range texts() {
		if got := midx.Name(s); got != name(s) {
			t.Errorf("Name(%s): %s, want %s", short(s), got, name(s))
		}
	}
}

func TestCheck(t *testing.T) {
	for i, s := range texts() {
		for j, other := range texts() {
			want := api.ErrCorrupt
			if i == j {
				want = api.ErrForm
				if _, is := readMerged(s); is {
					want = api.OK
				}
			}
			checkCheck(t, name(s), other, want)
		}
	}
	for _, l := range lists() {
		s := merge(t, l)
		checkCheck(t, midx.Name(s), s, api.OK)
		checkCheck(t, midx.Name(s), s[:len(s)-1], api.ErrCorrupt)
	}
}

// Names with another digit are files' names, but not that of the bytes.
func TestCheckRefusesDigits(t *testing.T) {
	s := texts()[0]
	for at := len("midx-"); at < len("midx-")+64; at++ {
		for _, c := range []byte("0123456789abcdef") {
			b := []byte(name(s))
			if b[at] != c {
				b[at] = c
				checkCheck(t, string(b), s, api.ErrCorrupt)
			}
		}
	}
	checkCheck(t, "midx-"+strings.Repeat("0", 64)+".mx", s, api.ErrCorrupt)
	checkCheck(t, "midx-"+strings.Repeat("f", 64)+".mx", "", api.ErrCorrupt)
}

func noNames(whole string) []string {
	digits := whole[5:69]
	l := []string{"", "x", "midx-", ".mx", "midx-.mx", "midx.mx", "midx-mx", digits, "midx-" + digits, digits + ".mx", "midx" + digits + ".mx", "midx--" + digits + ".mx", "midx-" + digits + "0.mx", "midx-0" + digits + ".mx", "midx-" + digits[1:] + ".mx", "midx-" + digits[2:] + ".mx", "midx-" + digits + "00.mx",
		"midx-" + digits + "..mx", "midx-" + digits + ".mx.mx", "midx-" + whole, whole + "x", "x" + whole, " " + whole, whole + " ", whole + "\n", whole + "\x00", strings.ToUpper(whole), "midx-" + strings.Repeat("F", 64) + ".mx", "Midx-" + whole[5:], "midx-" + digits + ".MX", "idx-" + digits + ".mx", "bloom-" + digits + ".bf", "pack-" + digits + ".pk", "idx-" + digits + "-" + digits + ".ix", "midx-" + digits + "-" + digits + ".mx", "midx-" + digits + ".pk", "pack-" + digits + ".mx", "midx-0x" + digits[2:] + ".mx", "midx-" + strings.Repeat("é", 32) + ".mx"}
	for at := range len(whole) {
		for _, c := range []string{"F", "g", "/", ":", "`", "@", "\xff", "\x00"} {
			l = append(l, whole[:at]+c+whole[at+1:])
		}
		l = append(l, whole[:at], whole[:at]+whole[at+1:])
	}
	return l
}

func TestCheckRefusesNames(t *testing.T) {
	for _, s := range texts() {
		for _, x := range noNames(name(s)) {
			checkCheck(t, x, s, api.ErrName)
		}
	}
}

// P15.2

func TestNilIndex(t *testing.T) {
	var x *midx.Index
	for _, id := range []api.Id{{}, {1}, allOnes()} {
		checkFind(t, x, id, row{}, api.ErrNil)
	}
	if x.Len() != 0 || len(x.Packs()) != 0 || len(x.All()) != 0 {
		t.Errorf("a nil index tells %d, %v, %v", x.Len(), x.Packs(), x.All())
	}
}

// Of an index that Open has not made nothing is promised but that no call panics.
func TestIndexMadeOtherwise(t *testing.T) {
	var x midx.Index
	checkTells(t, &x, merged{})
	checkFind(t, &x, api.Id{}, row{}, api.ErrNone)
}

// P15.3

func TestFoundAreNoOthers(t *testing.T) {
	for _, l := range lists() {
		x := open(t, merge(t, l))
		m := mergedOf(l)
		has := map[api.Id]row{}
		ask := []api.Id{{}, {31: 1}, allOnes()}
		for _, n := range m.rows {
			has[n.Entry.Id] = n
			ask = append(ask, n.Entry.Id)
			ask = append(ask, beside(n.Entry.Id)...)
		}
		for first := range 256 {
			ask = append(ask, api.Id{byte(first)}, api.Id{0: byte(first), 31: 1})
		}
		for _, sum := range m.packs {
			ask = append(ask, sum)
		}
		for _, id := range ask {
			if n, isThere := has[id]; isThere {
				checkFind(t, x, id, n, api.OK)
			} else {
				checkFind(t, x, id, row{}, api.ErrNone)
			}
		}
		checkTells(t, x, m)
	}
}

// Of one name in many packs the entry of the first pack is told, whichever stands first in the list.
func TestFirstPackOfMany(t *testing.T) {
	r := rand.New(rand.NewSource(2))
	for n := 1; n < 40; n++ {
		var l []index
		for i := range n {
			l = append(l, anIndex(api.Id{0: 7, 31: byte(i)}, someEntry(r, api.Id{5}), someEntry(r, api.Id{6, byte(i / 2)})))
		}
		shuffled := slices.Clone(l)
		r.Shuffle(n, func(i, j int) { shuffled[i], shuffled[j] = shuffled[j], shuffled[i] })
		x := open(t, merge(t, shuffled))
		checkFind(t, x, api.Id{5}, row{Pack: l[0].sum, Entry: l[0].entries[0]}, api.OK)
		for i := 0; i < n; i += 2 {
			checkFind(t, x, api.Id{6, byte(i / 2)}, row{Pack: l[i].sum, Entry: l[i].entries[1]}, api.OK)
		}
		if x.Len() != 1+(n+1)/2 || len(x.Packs()) != n {
			t.Errorf("of %d packs: %d rows, %d packs", n, x.Len(), len(x.Packs()))
		}
	}
}

func TestMergeInAnyOrder(t *testing.T) {
	r := rand.New(rand.NewSource(3))
	for i, l := range lists() {
		built := buildAll(t, l)
		s := merge(t, l)
		for range 6 {
			r.Shuffle(len(built), func(i, j int) { built[i], built[j] = built[j], built[i] })
			if other, e := midx.Merge(built); other != s || e != api.OK {
				t.Errorf("list %d in another order: %d bytes, %v", i, len(other), e)
			}
		}
	}
}

// P15.4

// asOne are the indexes by which a merged one says its packs and rows: of each pack its rows.
func asOne(x *midx.Index) []index {
	var l []index
	for _, sum := range x.Packs() {
		of := index{sum: sum}
		for _, n := range x.All() {
			if n.Pack == sum {
				of.entries = append(of.entries, n.Entry)
			}
		}
		l = append(l, of)
	}
	return l
}

func TestThereAndBack(t *testing.T) {
	for i, l := range lists() {
		s := merge(t, l)
		x := open(t, s)
		if bytesAsTheyStand(merged{packs: x.Packs(), rows: x.All()}) != s {
			t.Errorf("list %d: from the rows other bytes follow", i)
		}
		if merge(t, asOne(x)) != s {
			t.Errorf("list %d: merged again it has other bytes", i)
		}
	}
}

func TestMergeOfOne(t *testing.T) {
	for _, l := range lists() {
		for _, x := range l {
			one, e := idx.Open(build(t, x))
			if e != api.OK {
				t.Fatalf("the index: %v", e)
			}
			want := merged{packs: []api.Id{x.sum}}
			for _, n := range one.All() {
				want.rows = append(want.rows, row{Pack: x.sum, Entry: n})
			}
			checkTells(t, open(t, merge(t, []index{x})), want)
		}
	}
}

func TestMergeWithAPartOfALaterPack(t *testing.T) {
	r := rand.New(rand.NewSource(4))
	for range 40 {
		x := anIndex(api.Id{3, byte(r.Intn(256))}, numbered(r.Intn(1000), r.Intn(60))...)
		part := index{sum: api.Id{3, x.sum[1], byte(1 + r.Intn(255))}}
		for _, n := range x.entries[:r.Intn(len(x.entries)+1)] {
			part.entries = append(part.entries, someEntry(r, n.Id))
		}
		want := mergedOf([]index{x})
		want.packs = append(want.packs, part.sum)
		checkTells(t, open(t, merge(t, []index{part, x})), want)
	}
}

// P15.5

func TestWithoutOne(t *testing.T) {
	for _, l := range lists() {
		if len(l) > 20 {
			continue
		}
		all := open(t, merge(t, l)).All()
		for i, left := range l {
			others := slices.Delete(slices.Clone(l), i, i+1)
			x := open(t, merge(t, others))
			if slices.Contains(x.Packs(), left.sum) || len(x.Packs()) != len(others) {
				t.Errorf("without one: %d packs", len(x.Packs()))
			}
			for _, n := range all {
				checkWithoutOne(t, x, n, left.sum)
			}
		}
	}
}

// checkWithoutOne asks what is told of a name that had this row, without the index of that pack.
func checkWithoutOne(t *testing.T, x *midx.Index, was row, left api.Id) {
	t.Helper()
	found, e := x.Find(was.Entry.Id)
	if was.Pack != left && (found != was || e != api.OK) {
		t.Errorf("without another one: %+v, %v; want %+v", found, e, was)
	}
	if was.Pack == left && e == api.OK && order(found.Pack, left) <= 0 || e != api.OK && (e != api.ErrNone || found != row{}) {
		t.Errorf("without its pack: %+v, %v", found, e)
	}
}

// Merge: errors and limits

func TestMergeRefusesIndexByIndex(t *testing.T) {
	a, b, like := build(t, anIndex(api.Id{1}, plain(4))), build(t, anIndex(api.Id{2}, plain(4))), build(t, anIndex(api.Id{1}, plain(5), plain(6)))
	empty := build(t, anIndex(api.Id{1}))
	for _, c := range []struct {
		what string
		l    []string
		want api.Errno
	}{
		{"one pack's indexes of unlike entries", []string{a, like}, api.ErrThere},
		{"one pack's indexes, one of none", []string{empty, a}, api.ErrThere},
		{"one of none, twice", []string{empty, empty}, api.ErrThere},
		{"others between them", []string{b, a, build(t, anIndex(api.Id{})), like}, api.ErrThere},
		{"none ahead of all", []string{"", a, a}, api.ErrForm},
		{"none ahead of one twice", []string{a, "x", a}, api.ErrForm},
		{"one twice ahead of none", []string{a, a, "x"}, api.ErrThere},
		{"none at the end", []string{a, b, a[:len(a)-1]}, api.ErrForm},
		{"none twice", []string{"x", "x"}, api.ErrForm},
		{"a byte more", []string{a, b + "\x00"}, api.ErrForm},
	} {
		checkUnmerged(t, c.what, c.l, c.want)
	}
	for at := range len(a) {
		checkUnmerged(t, "an index cut short", []string{b, a[:at]}, api.ErrForm)
	}
}

func TestMostPacks(t *testing.T) {
	l := manyPacks(4096)
	built := buildAll(t, l)
	s, e := midx.Merge(built)
	if s != bytesAsTheyStand(mergedOf(l)) || e != api.OK {
		t.Fatalf("Merge of the most packs: %d bytes, %v", len(s), e)
	}
	checkTells(t, open(t, s), mergedOf(l))

	// Of more than MaxPacks none is looked at, whatever they are.
	one := build(t, anIndex(api.Id{7}, plain(7)))
	checkUnmerged(t, "one more", append(slices.Clone(built), one), api.ErrArg)
	checkUnmerged(t, "one more, which is there", append(slices.Clone(built), built[0]), api.ErrArg)
	checkUnmerged(t, "one more, which is none", append(slices.Clone(built), "x"), api.ErrArg)
	checkUnmerged(t, "many, none of which is an index", make([]string, 4097), api.ErrArg)
	checkUnmerged(t, "many more", slices.Repeat([]string{one}, 10000), api.ErrArg)
	checkUnmerged(t, "the most, one of them none", append(slices.Clone(built[:4095]), "x"), api.ErrForm)
	checkUnmerged(t, "the most, one of them twice", append(slices.Clone(built[:4095]), built[4]), api.ErrThere)

	for _, n := range []int{4097, 5000} {
		checkUnopened(t, "more packs", bytesAsTheyStand(mergedOf(manyPacks(n))))
	}
}

// full are indexes of so many names together, and of some of them twice.
func full(t *testing.T, rows int) []string {
	t.Helper()
	var l []index
	for from := 0; from < rows; from += 65536 {
		l = append(l, anIndex(api.Id{byte(255 - from/65536)}, numbered(from, min(65536, rows-from))...))
	}
	l = append(l, anIndex(api.Id{1}, numbered(60000, 10000)...), anIndex(allOnes(), numbered(0, 500)...))
	return buildAll(t, l)
}

func TestMostRows(t *testing.T) {
	most := full(t, 1<<20)
	s, e := midx.Merge(most)
	if e != api.OK || len(s) != 1036+32*18+45<<20 {
		t.Fatalf("Merge of the most rows: %d bytes, %v", len(s), e)
	}
	x := open(t, s)
	all := x.All()
	if x.Len() != 1<<20 || len(all) != 1<<20 || len(x.Packs()) != 18 {
		t.Errorf("of the most rows %d, %d; of 18 packs %d", x.Len(), len(all), len(x.Packs()))
	}
	for i, n := range numbered(0, 1000) {
		want := row{Pack: api.Id{255}, Entry: n}
		if found, e := x.Find(n.Id); found != want || e != api.OK {
			t.Errorf("name %d: %+v, %v", i, found, e)
		}
	}
	one := build(t, anIndex(api.Id{2}, numbered(1<<20, 1)...))
	checkUnmerged(t, "one row more", append(slices.Clone(most), one), api.ErrArg)
	checkUnmerged(t, "one row more, ahead of all", append([]string{one}, most...), api.ErrArg)
	checkUnmerged(t, "one row more, and one that is there", append(slices.Clone(most), one, most[3]), api.ErrThere)
	checkUnmerged(t, "one row more, and one that is none", append(slices.Clone(most), one, "x", most[3]), api.ErrForm)
}

func TestManyMoreRows(t *testing.T) {
	checkUnmerged(t, "many rows more", full(t, 1<<20+1<<18), api.ErrArg)
}

// ofOnePack are the bytes of so many rows of one pack, also where no index has so many.
func ofOnePack(rows int) string {
	m := merged{packs: []api.Id{{1}}, rows: make([]row, rows)}
	for i := range m.rows {
		n := plain()
		copy(n.Id[:], number(i<<10))
		m.rows[i] = row{Pack: api.Id{1}, Entry: n}
	}
	return bytesAsTheyStand(m)
}

func TestOpenOfMostRows(t *testing.T) {
	s := ofOnePack(1 << 20)
	x := open(t, s)
	if x.Len() != 1<<20 {
		t.Errorf("Len: %d", x.Len())
	}
	for _, i := range []int{0, 1, 1<<19 - 1, 1 << 19, 1<<20 - 1} {
		n := plain()
		copy(n.Id[:], number(i<<10))
		checkFind(t, x, n.Id, row{Pack: api.Id{1}, Entry: n}, api.OK)
		checkFind(t, x, api.Id([]byte(string(n.Id[:31])+"\x01")), row{}, api.ErrNone)
	}
	more := ofOnePack(1<<20 + 1)
	checkUnopened(t, "one row more", more)
	checkUnopened(t, "one row more than is said", s+more[len(more)-45:])
}

// Open: what it refuses

func TestOpenRefusesCuts(t *testing.T) {
	for _, l := range [][]index{nil, {anIndex(api.Id{5})}, {anIndex(api.Id{5}, plain(3))}, {anIndex(api.Id{6}, plain(0)), anIndex(api.Id{5}, plain(255, 1), plain(255, 2))}} {
		s := bytesAsTheyStand(mergedOf(l))
		for at := range len(s) {
			checkUnopened(t, "cut short", s[:at])
			checkUnopened(t, "without a byte", s[:at]+s[at+1:])
		}
		for _, more := range []string{"\x00", "x", s[:40], strings.Repeat("\x00", 32), strings.Repeat("\x00", 45), rowBytes(0, plain(255, 3)), s} {
			checkUnopened(t, "something more behind it", s+more)
			checkUnopened(t, "something more ahead of it", more+s)
		}
	}
}

// Of one byte changed it says what a plainer reader says.
func TestOneByteTurned(t *testing.T) {
	l := []index{anIndex(api.Id{2, 5}, anEntry(api.Id{2, 1}, 1, 4, 0), anEntry(api.Id{200}, 3, 70000, 300)), anIndex(api.Id{4}), anIndex(api.Id{2, 9}, anEntry(api.Id{2, 3}, 5, 1<<26, 1<<21))}
	s := bytesAsTheyStand(mergedOf(l))
	opened := 0
	for at := range len(s) {
		for _, x := range []byte{1, 2, 3, 4, 128, 255} {
			if checkAsRead(t, s[:at]+string([]byte{s[at] ^ x})+s[at+1:]) {
				opened++
			}
		}
	}
	if opened < 3*30*6 {
		t.Errorf("%d changed ones are merged indexes, and so are most with another byte in a sum", opened)
	}
}

func TestOpenRefusesMarks(t *testing.T) {
	s := bytesAsTheyStand(mergedOf([]index{anIndex(api.Id{1}, plain(4, 1))}))
	for at := range 4 {
		for x := 1; x < 256; x++ {
			checkUnopened(t, "another mark", s[:at]+string([]byte{s[at] ^ byte(x)})+s[at+1:])
		}
	}
	for _, mark := range []string{"", "mmx", "mmx0", "mmx2", "Mmx1", "mpk1", "mix1", "\x00\x00\x00\x00", "1xmm", "mmx1mmx1", " mmx1"} {
		checkUnopened(t, "another mark", mark+s[4:])
	}
	for _, x := range []string{"", "m", "mmx1", strings.Repeat("\x00", 1036), strings.Repeat("\xff", 1036+32+45), strings.Repeat("mmx1", 500), build(t, anIndex(api.Id{1}, plain(4)))} {
		checkUnopened(t, "no merged index", x)
	}
}

func TestOpenRefusesNumbers(t *testing.T) {
	m := mergedOf([]index{anIndex(api.Id{1}, plain(4, 1), plain(4, 2)), anIndex(api.Id{3}, plain(5))})
	s := bytesAsTheyStand(m)
	fan := 8 + 64 + 4
	for _, n := range []int{0, 1, 3, 4, 255, 4096, 4097, 1 << 24, 1 << 31, 1<<32 - 1} {
		checkUnopened(t, "another number of packs", s[:4]+number(n)+s[8:])
	}
	for _, n := range []int{0, 1, 2, 4, 1 << 20, 1<<20 + 1, 1 << 24, 1 << 31, 1<<32 - 1} {
		checkUnopened(t, "another number of rows", s[:fan-4]+number(n)+s[fan:])
		checkUnopened(t, "another number of rows, and in the fan-out's end", s[:fan-4]+number(n)+s[fan:fan+1020]+number(n)+s[fan+1024:])
	}
	for first := range 256 {
		at := fan + 4*first
		for _, n := range []string{number(4), number(1), number(1 << 31), number(1<<32 - 1), "\x01\x00\x00\x00"} {
			checkUnopened(t, "another number in the fan-out", s[:at]+n+s[at+4:])
		}
	}
	for i, x := range m.rows {
		at := len(s) - 45*(len(m.rows)-i)
		for _, n := range []int{2, 3, 255, 256, 4095, 4096, 1 << 24, 1<<24 + 1, 1 << 31, 1<<32 - 1} {
			checkUnopened(t, "a pack that there is not", s[:at]+rowBytes(n, x.Entry)+s[at+45:])
		}
	}
	// With no pack there is no number of one.
	for n := range 3 {
		none := bytesAsTheyStand(merged{rows: []row{{Entry: plain(4)}}})
		checkUnopened(t, "a row without a pack", none[:len(none)-45]+rowBytes(n, plain(4)))
	}
}

func TestOpenRefusesPacks(t *testing.T) {
	a, b, c := api.Id{4, 1}, api.Id{4, 2}, api.Id{5}
	for _, packs := range [][]api.Id{{b, a}, {c, a}, {a, c, b}, {b, a, c}, {c, b, a}, {a, a}, {a, b, b}, {a, a, b}, {c, c, c}, {{}, {}}, {{31: 1}, {}}, {allOnes(), {}}, {{128}, {127}}} {
		checkUnopened(t, "packs that do not rise", bytesAsTheyStand(merged{packs: packs}))
		checkUnopened(t, "packs that do not rise, and a row", bytesAsTheyStand(merged{packs: packs, rows: []row{{Pack: packs[0], Entry: plain(4)}}}))
	}
}

func TestOpenRefusesOrder(t *testing.T) {
	a, b, c := plain(4, 1), plain(4, 2), plain(5)
	for _, l := range [][]entry{{b, a}, {c, a}, {a, c, b}, {b, a, c}, {c, b, a}, {a, a}, {a, b, b}, {c, c, c}, {a, anEntry(a.Id, 2, 30, 9)}, {plain(128), plain(127)}} {
		m := merged{packs: []api.Id{{1}, {2}, {3}}}
		for i, n := range l {
			m.rows = append(m.rows, row{Pack: m.packs[i], Entry: n})
		}
		checkUnopened(t, "names that do not rise", bytesAsTheyStand(m))
		for i := range m.rows {
			m.rows[i].Pack = m.packs[1]
		}
		checkUnopened(t, "names of one pack that do not rise", bytesAsTheyStand(m))
	}
}

func TestLimitsOfAnEntry(t *testing.T) {
	good := row{Pack: api.Id{1}, Entry: plain(0)}
	for kind := range 256 {
		for _, off := range []int{0, 3, 4, 5, 1<<26 - 1, 1 << 26, 1<<26 + 1, 1 << 31, 1<<31 + 4, 1<<32 - 1} {
			for _, size := range []int{0, 1, 1<<21 - 1, 1 << 21, 1<<21 + 1, 1 << 31, 1<<32 - 1} {
				n := row{Pack: api.Id{1}, Entry: anEntry(api.Id{1}, uint8(kind), off, size)}
				m := merged{packs: []api.Id{{1}}, rows: []row{good, n}}
				if mayBe(n.Entry) {
					checkTells(t, open(t, bytesAsTheyStand(m)), m)
				} else {
					checkUnopened(t, "an entry that may not be indexed", bytesAsTheyStand(m))
				}
			}
		}
	}
}

// change makes a merged index's bytes anyhow others; some of them stay one.
func change(r *rand.Rand, s string) string {
	b := []byte(s)
	at := r.Intn(len(b))
	packs := numberAt(s, 4)
	rows := 8 + 32*packs + 4 + 1024
	switch r.Intn(7) {
	case 0:
		b[at] = byte(r.Intn(256))
	case 1:
		b = b[:at]
	case 2:
		b = append(b, slices.Repeat([]byte{byte(r.Intn(256))}, 1+r.Intn(50))...)
	case 3:
		if packs > 0 {
			b[8+r.Intn(32*packs)]++
		}
	case 4:
		if len(b) > rows {
			b[rows+r.Intn(len(b)-rows)] ^= 1 << r.Intn(8)
		}
	case 5:
		if len(b) >= rows+90 {
			from := rows + 45*r.Intn((len(b)-rows)/45-1)
			b = slices.Concat(b[:from], b[from+45:from+90], b[from:from+45], b[from+90:])
		}
	case 6:
		if len(b) > rows {
			b[rows+45*r.Intn((len(b)-rows)/45)+35] = byte(r.Intn(packs + 2))
		}
	}
	return string(b)
}

func TestMergedAnyhowChanged(t *testing.T) {
	r := rand.New(rand.NewSource(5))
	opened := 0
	for range 3000 {
		if checkAsRead(t, change(r, bytesAsTheyStand(mergedOf(someIndexes(r, r.Intn(5)))))) {
			opened++
		}
	}
	if opened < 300 || opened > 2700 {
		t.Errorf("%d of 3000 are merged indexes", opened)
	}
}

// R2 and R3

func TestListsAreLeftAsTheyWere(t *testing.T) {
	l := []index{anIndex(api.Id{3}, plain(5)), anIndex(api.Id{1}, plain(4)), anIndex(api.Id{2}, plain(4), plain(6))}
	room := append(buildAll(t, l), "x", "", "y")
	was := slices.Clone(room)
	s, e := midx.Merge(room[:3])
	if s != bytesAsTheyStand(mergedOf(l)) || e != api.OK || !slices.Equal(room, was) {
		t.Errorf("Merge reads or writes the list: %v", e)
	}
	x := open(t, s)
	clear(room)
	if s != bytesAsTheyStand(mergedOf(l)) {
		t.Error("Merge keeps the list")
	}
	checkTells(t, x, mergedOf(l))
}

func TestAnswersAreApart(t *testing.T) {
	l := []index{anIndex(api.Id{3}, plain(5)), anIndex(api.Id{1}, plain(4), plain(3)), anIndex(api.Id{2}, plain(4), plain(6))}
	m := mergedOf(l)
	s := merge(t, l)
	x, y := open(t, s), open(t, s)
	all, otherAll, packs, otherPacks := x.All(), x.All(), x.Packs(), x.Packs()
	for _, n := range all[len(all):cap(all)] {
		if n != (row{}) {
			t.Errorf("behind the rows stands %+v", n)
		}
	}
	for _, sum := range packs[len(packs):cap(packs)] {
		if sum != (api.Id{}) {
			t.Errorf("behind the packs stands %x", sum)
		}
	}
	clear(all[:cap(all)])
	clear(packs[:cap(packs)])
	if !slices.Equal(otherAll, m.rows) || !slices.Equal(otherPacks, m.packs) {
		t.Error("another answer was written over")
	}
	checkTells(t, x, m)
	checkTells(t, y, m)
	checkTells(t, open(t, merge(t, l[:2])), mergedOf(l[:2]))
	checkTells(t, x, m)
}

// Whatever the bytes: Open takes just the merged indexes, and whatever is told is what a plainer reader tells.
func FuzzOpen(f *testing.F) {
	for _, s := range texts() {
		f.Add(s, "x")
		f.Add(s, name(s))
	}
	f.Fuzz(func(t *testing.T, s, file string) {
		if checkAsRead(t, s) {
			checkCheck(t, name(s), s, api.OK)
			if merge(t, asOne(open(t, s))) != s {
				t.Error("merged again it has other bytes")
			}
		} else {
			checkCheck(t, name(s), s, api.ErrForm)
		}
		if e := midx.Check(file, s); file != name(s) && e != api.ErrName && e != api.ErrCorrupt {
			t.Errorf("Check(%q, %s): %v", file, short(s), e)
		}
	})
}

// Whatever the texts: Merge takes just indexes of unlike packs, and tells what the chapter's words say of them.
func FuzzMerge(f *testing.F) {
	one, _ := idx.Build(api.Id{1}, []entry{plain(4), plain(5)})
	two, _ := idx.Build(api.Id{2}, []entry{plain(5), plain(6)})
	f.Add(one, two)
	f.Add(two, one)
	f.Add(one, one)
	f.Add(one, "x")
	f.Fuzz(func(t *testing.T, a, b string) {
		x, e := idx.Open(a)
		y, e2 := idx.Open(b)
		switch {
		case e != api.OK || e2 != api.OK:
			checkUnmerged(t, "none among them", []string{a, b}, api.ErrForm)
		case x.Pack() == y.Pack():
			checkUnmerged(t, "one pack", []string{a, b}, api.ErrThere)
		default:
			want := mergedOf([]index{{x.Pack(), x.All()}, {y.Pack(), y.All()}})
			if s, e := midx.Merge([]string{a, b}); s != bytesAsTheyStand(want) || e != api.OK {
				t.Errorf("Merge: %d bytes, %v", len(s), e)
			}
		}
	})
}

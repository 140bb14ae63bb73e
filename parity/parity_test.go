package parity_test

import (
	"crypto/sha256"
	"encoding/binary"
	"encoding/hex"
	"hash/crc32"
	"math"
	"math/rand"
	"slices"
	"strings"
	"testing"

	"muniment/api"
	"muniment/field"
	"muniment/parity"
)

type table = parity.Table

// What the tests reckon by the chapter's words and the library's means, of things that may be and of such as may not.

func hashed(s string) api.Id { return sha256.Sum256([]byte(s)) }

func shortNumber(n int) string { return string(binary.AppendUvarint(nil, uint64(n))) }

func framed(payload string) string {
	length := binary.BigEndian.AppendUint32(nil, uint32(len(payload)))
	crc := crc32.ChecksumIEEE(append(slices.Clone(length), payload...))
	return string(binary.BigEndian.AppendUint32(length, crc)) + payload
}

// payloadOf is what stands in the frame of any table, with any number ahead.
func payloadOf(first int, t table) string {
	s := shortNumber(first) + shortNumber(t.Data) + shortNumber(t.Parity) + shortNumber(t.Size)
	for _, sum := range t.Sums {
		s += string(sum[:])
	}
	return s
}

func tableBytes(t table) string { return framed(payloadOf(1, t)) }

func mayBe(t table) bool {
	return t.Data >= 1 && t.Data <= 32 && t.Parity >= 1 && t.Parity <= 64-t.Data && t.Size >= 0 && t.Size <= 1<<26 && len(t.Sums) == t.Data+t.Parity
}

// readTable is the table whose bytes s is, and whether it is one's: of each table that may be there are some bytes.
func readTable(s string) (table, bool) {
	if len(s) < 8 {
		return table{}, false
	}
	rest := []byte(s[8:])
	var n [4]uint64
	for i := range n {
		x, size := binary.Uvarint(rest)
		if size <= 0 || x > 1<<31 {
			return table{}, false
		}
		n[i], rest = x, rest[size:]
	}
	t := table{Data: int(n[1]), Parity: int(n[2]), Size: int(n[3])}
	for ; len(rest) >= 32; rest = rest[32:] {
		t.Sums = append(t.Sums, api.Id(rest[:32]))
	}
	if !mayBe(t) || tableBytes(t) != s {
		return table{}, false
	}
	return t, true
}

// unitsOf are the shards of all units of a pack.
func unitsOf(pack string, data, others int) []string {
	size := len(pack) / data
	if size*data < len(pack) {
		size++
	}
	padded := pack + strings.Repeat("\x00", size*data-len(pack))
	var l []string
	for i := range data {
		l = append(l, padded[i*size:(i+1)*size])
	}
	rows, _ := field.Cauchy(others, data)
	for i := range others {
		shard := make([]byte, size)
		for at := range shard {
			for j := range data {
				shard[at] ^= field.Times(rows[i][j], l[j][at])
			}
		}
		l = append(l, string(shard))
	}
	return l
}

// tableOf is the table of such shards, also of some that no pack has.
func tableOf(all []string, data, size int) table {
	t := table{Data: data, Parity: len(all) - data, Size: size}
	for _, shard := range all {
		t.Sums = append(t.Sums, hashed(shard))
	}
	return t
}

// sideOf is a side-car of any bytes ahead of each shard.
func sideOf(head string, others []string) string {
	var b strings.Builder
	for _, shard := range others {
		b.WriteString(head)
		b.WriteString(shard)
	}
	return b.String()
}

// kept is a pack and its side-car as they were written.
type kept struct {
	pack, side, head string
	table            table
	whole, sum       api.Id
}

func keptOf(pack string, data, others int) kept {
	all := unitsOf(pack, data, others)
	t := tableOf(all, data, len(pack))
	head := tableBytes(t)
	return kept{pack: pack, side: sideOf(head, all[data:]), head: head, table: t, whole: hashed(pack), sum: hashed(head)}
}

func some(r *rand.Rand, n int) string {
	b := make([]byte, n)
	r.Read(b)
	return string(b)
}

// sumsOf are n sums that are those of nothing.
func sumsOf(n int) []api.Id {
	l := make([]api.Id, n)
	for i := range l {
		l[i] = api.Id{0: byte(i), 31: 255}
	}
	return l
}

func short(s string) string {
	if len(s) > 60 {
		return hex.EncodeToString([]byte(s[:60])) + ".."
	}
	return hex.EncodeToString([]byte(s))
}

func same(a, b table) bool {
	return a.Data == b.Data && a.Parity == b.Parity && a.Size == b.Size && slices.Equal(a.Sums, b.Sums)
}

func isZero(t table) bool { return t.Data == 0 && t.Parity == 0 && t.Size == 0 && len(t.Sums) == 0 }

// turned is s with the byte at a place laid over with b.
func turned(s string, at int, b byte) string {
	return s[:at] + string([]byte{s[at] ^ b}) + s[at+1:]
}

func checkBuilt(t *testing.T, k kept) {
	t.Helper()
	side, sum, e := parity.Build(k.pack, k.table.Data, k.table.Parity)
	if side != k.side || sum != k.sum || e != api.OK {
		t.Errorf("Build of %d bytes, %d, %d: %d bytes %s, %x, %v; want %d bytes %s, %x", len(k.pack), k.table.Data, k.table.Parity, len(side), short(side), sum, e, len(k.side), short(k.side), k.sum)
	}
}

func checkUnbuilt(t *testing.T, pack string, data, others int) {
	t.Helper()
	if side, sum, e := parity.Build(pack, data, others); side != "" || sum != (api.Id{}) || e != api.ErrArg {
		t.Errorf("Build of %d bytes, %d, %d: %d bytes, %x, %v; want ErrArg", len(pack), data, others, len(side), sum, e)
	}
}

func checkMayBe(t *testing.T, x table) {
	t.Helper()
	if e := x.Check(); e != api.OK {
		t.Errorf("Check of %d, %d, %d, %d sums: %v", x.Data, x.Parity, x.Size, len(x.Sums), e)
	}
	s, e := x.Encode()
	if s != tableBytes(x) || e != api.OK {
		t.Errorf("Encode of %d, %d, %d: %s, %v; want %s", x.Data, x.Parity, x.Size, short(s), e, short(tableBytes(x)))
	}
	if y, e := parity.Decode(s); !same(x, y) || e != api.OK {
		t.Errorf("Decode of Encode of %d, %d, %d: %d, %d, %d, %v", x.Data, x.Parity, x.Size, y.Data, y.Parity, y.Size, e)
	}
}

func checkMayNotBe(t *testing.T, x table) {
	t.Helper()
	if e := x.Check(); e != api.ErrArg {
		t.Errorf("Check of %d, %d, %d, %d sums: %v; want ErrArg", x.Data, x.Parity, x.Size, len(x.Sums), e)
	}
	if s, e := x.Encode(); s != "" || e != api.ErrArg {
		t.Errorf("Encode of %d, %d, %d, %d sums: %s, %v; want ErrArg", x.Data, x.Parity, x.Size, len(x.Sums), short(s), e)
	}
}

func checkNoTable(t *testing.T, what, s string) {
	t.Helper()
	if x, e := parity.Decode(s); !isZero(x) || e != api.ErrForm {
		t.Errorf("%s: Decode of %d bytes %s: %d, %d, %d, %v; want ErrForm", what, len(s), short(s), x.Data, x.Parity, x.Size, e)
	}
}

// checkDecoded holds Decode against the plainer reader.
func checkDecoded(t *testing.T, what, s string) {
	t.Helper()
	want, is := readTable(s)
	if !is {
		checkNoTable(t, what, s)
		return
	}
	x, e := parity.Decode(s)
	if !same(x, want) || e != api.OK {
		t.Errorf("%s: Decode of %s: %d, %d, %d, %v", what, short(s), x.Data, x.Parity, x.Size, e)
	}
	if again, e := x.Encode(); again != s || e != api.OK {
		t.Errorf("%s: Encode of Decode of %s: %s, %v", what, short(s), short(again), e)
	}
}

// The chapter's examples, row by row.

func TestExampleSideCar(t *testing.T) {
	sums := hashed("abc")
	sums2 := hashed("de\x00")
	shard := make([]byte, 3)
	// The parity's row is the inverses of 128 and 129.
	for j, data := range []string{"abc", "de\x00"} {
		over, _ := field.Over(1, byte(128^j))
		for i := range shard {
			shard[i] ^= field.Times(over, data[i])
		}
	}
	sums3 := hashed(string(shard))
	head := framed("\x01\x02\x01\x05" + string(sums[:]) + string(sums2[:]) + string(sums3[:]))
	side, sum, e := parity.Build("abcde", 2, 1)
	if side != head+string(shard) || sum != hashed(head) || e != api.OK || len(side) != 8+4+96+3 {
		t.Errorf("Build(abcde, 2, 1): %x, %x, %v", side, sum, e)
	}
}

func TestExampleBuildRefuses(t *testing.T) {
	checkUnbuilt(t, "abcde", 0, 1)
	checkUnbuilt(t, "abcde", 1, 0)
	checkUnbuilt(t, "abcde", 32, 33)
}

func TestExamplesLocate(t *testing.T) {
	k := keptOf("abcde", 2, 1)
	checkLocate(t, "both as they were", "abcde", k.side, k.sum, nil)
	checkLocate(t, "abcdX", "abcdX", k.side, k.sum, []int{1})
	checkLocate(t, "the last byte", "abcde", turned(k.side, len(k.side)-1, 1), k.sum, []int{2})
	checkUnlocated(t, "the first byte", "abcde", turned(k.side, 0, 1), k.sum)
}

func TestExamplesRepair(t *testing.T) {
	k := keptOf("abcde", 2, 1)
	checkRepair(t, "abcdX", "abcdX", k.side, k, []int{1})
	checkUnrepaired(t, "abXdX", "abXdX", k.side, k.whole, k.sum)
	checkRepair(t, "the first byte", "abcde", turned(k.side, 0, 1), k, []int{2})
}

// Tables.

// allNumbers are all numbers of units that may be.
func allNumbers() [][2]int {
	var l [][2]int
	for data := 1; data <= 32; data++ {
		for others := 1; others <= 64-data; others++ {
			l = append(l, [2]int{data, others})
		}
	}
	return l
}

func TestTablesThatMayBe(t *testing.T) {
	for _, n := range allNumbers() {
		checkMayBe(t, table{Data: n[0], Parity: n[1], Size: n[0] * n[1], Sums: sumsOf(n[0] + n[1])})
	}
	for _, size := range []int{0, 1, 127, 128, 1<<14 - 1, 1 << 14, 1<<21 - 1, 1 << 21, 1<<26 - 1, 1 << 26} {
		checkMayBe(t, table{Data: 2, Parity: 1, Size: size, Sums: sumsOf(3)})
		checkMayBe(t, table{Data: 32, Parity: 32, Size: size, Sums: sumsOf(64)})
	}
	checkMayBe(t, table{Data: 1, Parity: 1, Sums: make([]api.Id, 2)})
}

// far are numbers that are no table's.
func far() []int {
	return []int{-1, -2, -64, math.MinInt, math.MinInt + 1, math.MaxInt, math.MaxInt - 1, 1 << 32, 1<<32 + 1, 65, 128, 256, 257}
}

func TestTablesThatMayNotBe(t *testing.T) {
	checkMayNotBe(t, table{})
	for _, n := range append(far(), 0, 33, 64) {
		checkMayNotBe(t, table{Data: n, Parity: 1, Size: 5, Sums: sumsOf(3)})
	}
	for _, n := range append(far(), 0, 63, 64) {
		checkMayNotBe(t, table{Data: 2, Parity: n, Size: 5, Sums: sumsOf(3)})
	}
	for data := range 70 {
		// One more than there may be, with as many sums as units.
		checkMayNotBe(t, table{Data: data, Parity: 0, Size: 5, Sums: sumsOf(data)})
		checkMayNotBe(t, table{Data: data, Parity: max(1, 65-data), Size: 5, Sums: sumsOf(data + max(1, 65-data))})
		checkMayNotBe(t, table{Data: 0, Parity: data, Size: 5, Sums: sumsOf(data)})
		checkMayNotBe(t, table{Data: data + 33, Parity: 1, Size: 5, Sums: sumsOf(data + 34)})
	}
	for _, n := range []int{-1, math.MinInt, 1<<26 + 1, 1 << 32, math.MaxInt} {
		checkMayNotBe(t, table{Data: 2, Parity: 1, Size: n, Sums: sumsOf(3)})
	}
	for n := range 70 {
		if n != 5 {
			checkMayNotBe(t, table{Data: 3, Parity: 2, Size: 5, Sums: sumsOf(n)})
		}
	}
	// Their sum wraps to the number of the sums.
	checkMayNotBe(t, table{Data: math.MaxInt, Parity: math.MinInt + 4, Size: 5, Sums: sumsOf(3)})
	checkMayNotBe(t, table{Data: -1, Parity: 4, Size: 5, Sums: sumsOf(3)})
	checkMayNotBe(t, table{Data: 4, Parity: -1, Size: 5, Sums: sumsOf(3)})
}

func TestDecodeRefusesTables(t *testing.T) {
	good := table{Data: 2, Parity: 1, Size: 5, Sums: sumsOf(3)}
	for _, first := range []int{0, 2, 3, 127, 128, 129, 257, 1<<32 + 1, -1, math.MinInt} {
		checkNoTable(t, "its first number", framed(payloadOf(first, good)))
	}
	for _, n := range append(far(), 0, 1, 3, 33) {
		checkNoTable(t, "Data", framed(payloadOf(1, table{Data: n, Parity: 1, Size: 5, Sums: sumsOf(3)})))
		if n != 1 {
			checkNoTable(t, "Parity", framed(payloadOf(1, table{Data: 2, Parity: n, Size: 5, Sums: sumsOf(3)})))
		}
	}
	checkNoTable(t, "Data and as many sums", framed(payloadOf(1, table{Data: 33, Parity: 1, Size: 5, Sums: sumsOf(34)})))
	checkNoTable(t, "no Data and as many sums", framed(payloadOf(1, table{Data: 0, Parity: 3, Size: 5, Sums: sumsOf(3)})))
	checkNoTable(t, "Parity and as many sums", framed(payloadOf(1, table{Data: 32, Parity: 33, Size: 5, Sums: sumsOf(65)})))
	checkNoTable(t, "no Parity and as many sums", framed(payloadOf(1, table{Data: 3, Parity: 0, Size: 5, Sums: sumsOf(3)})))
	for _, n := range []int{-1, math.MinInt, 1<<26 + 1, 1 << 32, 1<<32 + 5, math.MaxInt} {
		checkNoTable(t, "Size", framed(payloadOf(1, table{Data: 2, Parity: 1, Size: n, Sums: sumsOf(3)})))
	}
	for n := range 6 {
		if n != 3 {
			checkNoTable(t, "sums", framed(payloadOf(1, table{Data: 2, Parity: 1, Size: 5, Sums: sumsOf(n)})))
		}
	}
}

func TestDecodeRefusesForms(t *testing.T) {
	good := table{Data: 2, Parity: 1, Size: 5, Sums: sumsOf(3)}
	s, payload := tableBytes(good), payloadOf(1, good)
	sums := payload[4:]
	checkDecoded(t, "as it is", s)
	checkNoTable(t, "a byte more", s+"\x00")
	checkNoTable(t, "a byte ahead", "\x00"+s)
	checkNoTable(t, "twice", s+s)
	checkNoTable(t, "no frame", payload)
	checkNoTable(t, "a frame in a frame", framed(s))
	checkNoTable(t, "nothing", "")
	checkNoTable(t, "a frame of nothing", framed(""))
	checkNoTable(t, "a byte more within", framed(payload+"\x00"))
	checkNoTable(t, "a byte less within", framed(payload[:len(payload)-1]))
	checkNoTable(t, "31 bytes more within", framed(payload+strings.Repeat("\x00", 31)))
	// Longer forms of its numbers.
	for i, n := range []string{"\x81\x00\x02\x01\x05", "\x01\x82\x00\x01\x05", "\x01\x02\x81\x00\x05", "\x01\x02\x01\x85\x00", "\x01\x02\x01\x85\x80\x00"} {
		checkNoTable(t, "a longer form "+string(rune('0'+i)), framed(n+sums))
	}
	for end := range payload {
		checkNoTable(t, "a payload cut", framed(payload[:end]))
	}
	for end := range s {
		checkNoTable(t, "cut", s[:end])
	}
	for at := range s {
		for b := 1; b < 256; b++ {
			checkNoTable(t, "a byte turned", turned(s, at, byte(b)))
		}
	}
}

func TestTablesAnyhowChanged(t *testing.T) {
	r := rand.New(rand.NewSource(17))
	for range 20000 {
		data, others := 1+r.Intn(4), 1+r.Intn(4)
		x := table{Data: data, Parity: others, Size: r.Intn(300), Sums: sumsOf(data + others)}
		b := []byte(payloadOf(1, x))
		for range r.Intn(3) {
			b[r.Intn(5)] = byte(r.Intn(6) * r.Intn(40))
		}
		if r.Intn(3) == 0 {
			b = b[:r.Intn(len(b)+1)]
		}
		if r.Intn(3) == 0 {
			b = append(b, some(r, 32*r.Intn(3)+r.Intn(2))...)
		}
		checkDecoded(t, "changed", framed(string(b)))
	}
}

// Side-cars.

func TestBuildIsTheChaptersBytes(t *testing.T) {
	r := rand.New(rand.NewSource(1))
	for _, n := range allNumbers() {
		checkBuilt(t, keptOf(some(r, r.Intn(120)), n[0], n[1]))
	}
	for size := range 140 {
		for _, n := range [][2]int{{1, 1}, {2, 1}, {3, 2}, {4, 4}, {7, 3}, {32, 1}} {
			checkBuilt(t, keptOf(some(r, size), n[0], n[1]))
		}
	}
	for _, size := range []int{1000, 16383, 16384, 65537} {
		checkBuilt(t, keptOf(some(r, size), 3, 2))
	}
	checkBuilt(t, keptOf(strings.Repeat("\x00", 50), 3, 2))
	checkBuilt(t, keptOf("abcabc", 2, 2))
}

func TestBuildRefuses(t *testing.T) {
	for _, pack := range []string{"", "a", "abcde"} {
		for _, n := range append(far(), 0, 33, 64) {
			checkUnbuilt(t, pack, n, 1)
			checkUnbuilt(t, pack, n, n)
			checkUnbuilt(t, pack, n, -n)
		}
		for _, n := range append(far(), 0, 63, 64) {
			checkUnbuilt(t, pack, 2, n)
		}
		for data := 1; data <= 32; data++ {
			checkUnbuilt(t, pack, data, 0)
			checkUnbuilt(t, pack, data, 65-data)
		}
	}
}

// Names.

func TestNameAndNamed(t *testing.T) {
	a, b := hashed("a"), hashed("b")
	name := "par-ca978112ca1bbdcafac231b39a23dc4da786eff8147c4e72b9807785afee48bb-3e23e8160039594a33894f6564e1b1348bbd7a0088d42c4acb73eeaed59c009d.px"
	if s := parity.Name(a, b); s != name {
		t.Errorf("Name: %s", s)
	}
	ones := api.Id([]byte(strings.Repeat("\xff", 32)))
	for _, c := range [][2]api.Id{{a, b}, {b, a}, {a, a}, {}, {ones, {}}, {{}, ones}, {{31: 1}, {0: 1}}} {
		whole, sum, e := parity.Named(parity.Name(c[0], c[1]))
		if whole != c[0] || sum != c[1] || e != api.OK {
			t.Errorf("Named of Name: %x, %x, %v; want %x, %x", whole, sum, e, c[0], c[1])
		}
	}
}

func checkUnnamed(t *testing.T, name string) {
	t.Helper()
	if whole, sum, e := parity.Named(name); whole != (api.Id{}) || sum != (api.Id{}) || e != api.ErrName {
		t.Errorf("Named(%q): %x, %x, %v; want ErrName", name, whole, sum, e)
	}
}

func TestNamedRefuses(t *testing.T) {
	name := parity.Name(hashed("a"), hashed("b"))
	front, first, second := name[:4], name[4:68], name[69:133]
	for _, s := range []string{
		"", "x", "par-", "par-.px", ".px", "par--.px", "par-px", "par", name + "x", name + name, " " + name, name + " ", name + ".px", front + name,
		first, second, first + "-" + second, front + first + second + ".px", front + first + ".px", front + first + "-.px", front + "-" + second + ".px",
		front + first + "-" + second, first + "-" + second + ".px", front + first + "--" + second + ".px", front + first + "-" + second + "-.px",
		front + first + "-" + second + "-" + first + ".px", front + second[:63] + "-" + first + ".px", front + first + "-" + second[:63] + ".px",
		front + first + "0-" + second[:63] + ".px", front + first[:63] + "-0" + second + ".px", front + first + "-" + second + "0.px",
		strings.ToUpper(name), front + strings.ToUpper(first) + "-" + second + ".px", front + first + "-" + strings.ToUpper(second) + ".px",
		"pack-" + first + ".pk", "idx-" + first + "-" + second + ".ix", "par-" + first + "-" + second + ".ix", "idx-" + first + "-" + second + ".px",
	} {
		checkUnnamed(t, s)
	}
	for end := range name {
		checkUnnamed(t, name[:end])
		checkUnnamed(t, name[end+1:])
	}
}

func TestNamedAskedOfEachByte(t *testing.T) {
	name := parity.Name(hashed("a"), hashed("b"))
	for at := range name {
		for b := range 256 {
			s := name[:at] + string([]byte{byte(b)}) + name[at+1:]
			isDigit := at >= 4 && at < 133 && at != 68 && strings.IndexByte("0123456789abcdef", byte(b)) >= 0
			if !isDigit && s != name {
				checkUnnamed(t, s)
				continue
			}
			whole, sum, e := parity.Named(s)
			if e != api.OK || parity.Name(whole, sum) != s {
				t.Errorf("Named(%q): %x, %x, %v", s, whole, sum, e)
			}
		}
	}
}

// R3.

func TestListsAreLeftAsTheyWere(t *testing.T) {
	room := sumsOf(9)
	x := table{Data: 2, Parity: 1, Size: 5, Sums: room[:3]}
	s, _ := x.Encode()
	if x.Check() != api.OK || s != tableBytes(table{Data: 2, Parity: 1, Size: 5, Sums: sumsOf(3)}) {
		t.Errorf("Encode of a list with room behind it: %s", short(s))
	}
	if !slices.Equal(room, sumsOf(9)) {
		t.Error("the list was changed")
	}
}

func TestAnswersAreApart(t *testing.T) {
	k := keptOf("abcde", 2, 1)
	spoil := func(l []api.Id) {
		for i := range l[:cap(l)] {
			l[:cap(l)][i] = api.Id{1}
		}
	}
	x, _ := parity.Decode(k.head)
	spoil(x.Sums)
	y, _ := parity.Find(k.side, k.sum)
	spoil(y.Sums)
	if z, e := parity.Decode(k.head); !same(z, k.table) || e != api.OK {
		t.Error("Decode shows what was written into its answer")
	}
	if z, e := parity.Find(k.side, k.sum); !same(z, k.table) || e != api.OK {
		t.Error("Find shows what was written into its answer")
	}
	bad, _ := parity.Locate("abcdX", k.side, k.sum)
	bad[0] = 9
	checkLocate(t, "again", "abcdX", k.side, k.sum, []int{1})
	for _, pack := range []string{"abcdX", "abcde"} {
		side, units := k.side, []int{1}
		if pack == "abcde" {
			side, units = turned(k.side, 0, 1), []int{2}
		}
		m, _ := parity.Repair(pack, side, k.whole, k.sum)
		m.Units[0] = 9
		checkRepair(t, "again", pack, side, k, units)
	}
}

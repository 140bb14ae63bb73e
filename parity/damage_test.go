package parity_test

import (
	"math/rand"
	"slices"
	"strings"
	"testing"

	"muniment/api"
	"muniment/parity"
	"muniment/shards"
)

func checkFound(t *testing.T, what, side string, sum api.Id, want table) {
	t.Helper()
	if x, e := parity.Find(side, sum); !same(x, want) || e != api.OK {
		t.Errorf("%s: Find in %d bytes: %d, %d, %d, %v; want %d, %d, %d", what, len(side), x.Data, x.Parity, x.Size, e, want.Data, want.Parity, want.Size)
	}
}

func checkUnfound(t *testing.T, what, side string, sum api.Id) {
	t.Helper()
	if x, e := parity.Find(side, sum); !isZero(x) || e != api.ErrCorrupt {
		t.Errorf("%s: Find in %d bytes: %d, %d, %d, %v; want ErrCorrupt", what, len(side), x.Data, x.Parity, x.Size, e)
	}
}

func checkLocate(t *testing.T, what, pack, side string, sum api.Id, want []int) {
	t.Helper()
	if units, e := parity.Locate(pack, side, sum); !slices.Equal(units, want) || e != api.OK {
		t.Errorf("%s: Locate in %d and %d bytes: %v, %v; want %v", what, len(pack), len(side), units, e, want)
	}
}

func checkUnlocated(t *testing.T, what, pack, side string, sum api.Id) {
	t.Helper()
	if units, e := parity.Locate(pack, side, sum); units != nil || e != api.ErrCorrupt {
		t.Errorf("%s: Locate in %d and %d bytes: %v, %v; want ErrCorrupt", what, len(pack), len(side), units, e)
	}
}

// checkRepair also holds Repair to its word that nothing is damaged in what it tells.
func checkRepair(t *testing.T, what, pack, side string, k kept, units []int) {
	t.Helper()
	m, e := parity.Repair(pack, side, k.whole, k.sum)
	if m.Pack != k.pack || m.Side != k.side || !slices.Equal(m.Units, units) || e != api.OK {
		t.Errorf("%s: Repair of %d and %d bytes: %d bytes %s, %d bytes %s, %v, %v; want %d bytes %s, %d bytes %s, %v", what, len(pack), len(side), len(m.Pack), short(m.Pack), len(m.Side), short(m.Side), m.Units, e, len(k.pack), short(k.pack), len(k.side), short(k.side), units)
		return
	}
	checkLocate(t, what+", repaired", m.Pack, m.Side, k.sum, nil)
	if n, e := parity.Repair(m.Pack, m.Side, k.whole, k.sum); n.Pack != m.Pack || n.Side != m.Side || len(n.Units) != 0 || e != api.OK {
		t.Errorf("%s: Repair of what was repaired: %d bytes, %d bytes, %v, %v", what, len(n.Pack), len(n.Side), n.Units, e)
	}
}

func checkUnrepaired(t *testing.T, what, pack, side string, whole, sum api.Id) {
	t.Helper()
	if m, e := parity.Repair(pack, side, whole, sum); m.Pack != "" || m.Side != "" || m.Units != nil || e != api.ErrCorrupt {
		t.Errorf("%s: Repair of %d and %d bytes: %d bytes, %d bytes, %v, %v; want ErrCorrupt", what, len(pack), len(side), len(m.Pack), len(m.Side), m.Units, e)
	}
}

func checkNothing(t *testing.T, what, pack, side string, whole, sum api.Id) {
	t.Helper()
	checkUnfound(t, what, side, sum)
	checkUnlocated(t, what, pack, side, sum)
	checkUnrepaired(t, what, pack, side, whole, sum)
}

// unit is how many bytes of the side-car a unit of parity has.
func (k kept) unit() int { return len(k.side) / k.table.Parity }

// withoutTables is the side-car with a byte of each table turned.
func (k kept) withoutTables(r *rand.Rand) string {
	s := k.side
	for i := range k.table.Parity {
		s = turned(s, i*k.unit()+r.Intn(len(k.head)), byte(1+r.Intn(255)))
	}
	return s
}

// parityUnits are the numbers of all units of parity.
func (k kept) parityUnits() []int {
	var l []int
	for i := range k.table.Parity {
		l = append(l, k.table.Data+i)
	}
	return l
}

// Tables in side-cars.

func TestFindAsksAnyCopy(t *testing.T) {
	r := rand.New(rand.NewSource(2))
	for _, n := range [][2]int{{1, 1}, {2, 1}, {2, 3}, {5, 4}, {32, 32}, {1, 63}} {
		for _, size := range []int{0, 1, 5, 64, 700} {
			k := keptOf(some(r, size), n[0], n[1])
			checkFound(t, "as built", k.side, k.sum, k.table)
			none := k.withoutTables(r)
			checkUnfound(t, "no copy", none, k.sum)
			for i := range n[1] {
				at := i * k.unit()
				one := none[:at] + k.side[at:at+len(k.head)] + none[at+len(k.head):]
				checkFound(t, "one copy", one, k.sum, k.table)
			}
			blank := strings.Repeat("\x00", len(k.side)-k.unit())
			checkFound(t, "the first unit alone", k.side[:k.unit()]+blank, k.sum, k.table)
			checkFound(t, "the last unit alone", blank+k.side[:k.unit()], k.sum, k.table)
			blank = strings.Repeat("\xff", k.unit()-len(k.head))
			checkFound(t, "no shards", sideOf(k.head+blank, make([]string, n[1])), k.sum, k.table)
		}
	}
}

// The most bytes that a table may have.
func TestFindTheLongestTable(t *testing.T) {
	x := table{Data: 32, Parity: 32, Size: 1 << 21, Sums: sumsOf(64)}
	head := tableBytes(x)
	blank := strings.Repeat("\x00", len(head)+1<<16)
	checkFound(t, "the longest", head+blank[len(head):]+strings.Repeat(blank, 31), hashed(head), x)
	checkFound(t, "the longest, last", strings.Repeat(blank, 31)+head+blank[len(head):], hashed(head), x)
}

func TestFindAsksTheSum(t *testing.T) {
	k := keptOf("abcde", 2, 2)
	for at := range k.sum {
		for _, b := range []byte{1, 128, 255} {
			sum := k.sum
			sum[at] ^= b
			checkNothing(t, "another sum", k.pack, k.side, hashed("else"), sum)
		}
	}
	checkNothing(t, "no sum", k.pack, k.side, k.whole, api.Id{})
	checkNothing(t, "the pack's", k.pack, k.side, k.whole, k.whole)
	checkNothing(t, "a shard's", k.pack, k.side, k.whole, k.table.Sums[0])
	checkNothing(t, "that of a table and a shard", k.pack, k.side, k.whole, hashed(k.side[:k.unit()]))
	checkNothing(t, "the side-car's", k.pack, k.side, k.whole, hashed(k.side))
	checkNothing(t, "the payload's", k.pack, k.side, k.whole, hashed(k.head[8:]))
}

func TestFindAsksTheLength(t *testing.T) {
	for _, n := range [][2]int{{1, 1}, {2, 1}, {2, 2}, {3, 4}} {
		for _, pack := range []string{"", "abcde", strings.Repeat("long", 50)} {
			k := keptOf(pack, n[0], n[1])
			one := k.side[:k.unit()]
			for what, side := range map[string]string{
				"nothing": "", "a unit more": k.side + one, "a unit less": k.side[k.unit():], "a table more": k.side + k.head, "twice": k.side + k.side,
				"a byte more": k.side + "\x00", "a byte ahead": "\x00" + k.side, "a byte less": k.side[:len(k.side)-1], "a byte off the front": k.side[1:],
				"a byte more each": sideOf(one+"\x00", make([]string, n[1])), "a byte less each": sideOf(one[:k.unit()-1], make([]string, n[1])),
				"as many bytes more as units": k.side + strings.Repeat("\x00", n[1]), "64 times": strings.Repeat(k.side, 64),
			} {
				checkNothing(t, what, k.pack, side, k.whole, k.sum)
			}
		}
	}
}

func TestFindAsksThePlace(t *testing.T) {
	k := keptOf(strings.Repeat("some pack", 60), 2, 2)
	for _, by := range []int{1, 2, len(k.head), k.unit() - len(k.head), k.unit() - 1, k.unit() + 1} {
		side := k.side[by:] + k.side[:by]
		checkUnfound(t, "turned about", side, k.sum)
		checkUnlocated(t, "turned about", k.pack, side, k.sum)
		checkRepair(t, "turned about", k.pack, side, k, k.parityUnits())
	}
	// A table within a shard is none of the side-car's, be there room for it or not.
	within := strings.Repeat("\x00", len(k.head)) + k.head
	checkUnfound(t, "within a shard", (within + k.side)[:k.unit()]+strings.Repeat("\x00", k.unit()), k.sum)
	checkFound(t, "one unit on", k.side[k.unit():]+k.side[:k.unit()], k.sum, k.table)
}

func TestFindAsksTheParity(t *testing.T) {
	// Two units of two bytes' shards are as long as the table of one unit with a shard of many bytes, so that the lengths agree.
	short := table{Data: 1, Parity: 1, Size: 0, Sums: sumsOf(2)}
	for short.Size = range 400 {
		head := tableBytes(short)
		one := head + strings.Repeat("s", short.Size)
		checkFound(t, "alone", one, hashed(head), short)
		for n := 2; n < 5; n++ {
			checkUnfound(t, "more than its units", strings.Repeat(one, n), hashed(head))
		}
	}
	two := table{Data: 1, Parity: 2, Size: 7, Sums: sumsOf(3)}
	head := tableBytes(two)
	checkUnfound(t, "its units in one", head+strings.Repeat("s", 7), hashed(head))
	checkUnfound(t, "its units in three", strings.Repeat(head+strings.Repeat("s", 7), 3), hashed(head))
	checkFound(t, "its units", strings.Repeat(head+strings.Repeat("s", 7), 2), hashed(head), two)
	// Another table's unit may be that long, too.
	alike := table{Data: 1, Parity: 1, Size: 2*len(head) + 14, Sums: sumsOf(2)}
	alike.Size -= len(tableBytes(alike))
	alikeHead := tableBytes(alike)
	both := head + strings.Repeat("s", 7) + head + strings.Repeat("s", 7)
	if len(alikeHead)+alike.Size != len(both) {
		t.Fatalf("%d and %d bytes", len(alikeHead)+alike.Size, len(both))
	}
	mixed := alikeHead + both[len(alikeHead):]
	checkFound(t, "one unit", mixed, hashed(alikeHead), alike)
	checkFound(t, "two units", mixed, hashed(head), two)
	checkUnfound(t, "one unit behind", both[:len(head)+7]+alikeHead+both[len(head)+7+len(alikeHead):], hashed(alikeHead))
}

func TestFindAsksWhetherATableMayBe(t *testing.T) {
	good := table{Data: 2, Parity: 1, Size: 5, Sums: sumsOf(3)}
	sums := payloadOf(1, good)[4:]
	for what, payload := range map[string]string{
		"another version": "\x02\x02\x01\x05" + sums, "no version": "\x00\x02\x01\x05" + sums, "a longer form": "\x01\x82\x00\x01\x05" + sums,
		"a sum less": "\x01\x02\x01\x05" + sums[32:], "a sum more": "\x01\x02\x01\x05" + sums + sums[:32], "a byte more": "\x01\x02\x01\x05" + sums + "\x00",
		"no Data": "\x01\x00\x03\x05" + sums, "no Parity": "\x01\x03\x00\x05" + sums,
		"too much Data":  payloadOf(1, table{Data: 33, Parity: 1, Size: 5, Sums: sumsOf(34)}),
		"too much Size":  payloadOf(1, table{Data: 32, Parity: 1, Size: 1<<26 + 1, Sums: sumsOf(33)}),
		"too many units": payloadOf(1, table{Data: 32, Parity: 33, Size: 5, Sums: sumsOf(65)}),
	} {
		head := framed(payload)
		for n := range 70 {
			for _, times := range []int{1, 2, 3, 33} {
				side := strings.Repeat(head+strings.Repeat("s", n), times)
				checkUnfound(t, what, side, hashed(head))
			}
		}
		checkNothing(t, what, "abcde", head+"sss", hashed("abcde"), hashed(head))
	}
	head := tableBytes(good)
	checkFound(t, "the good one", head+"sss", hashed(head), good)
	// The frame's check is no table's, but its sum is.
	bad := turned(head, 5, 1)
	checkUnfound(t, "another check", bad+"sss", hashed(bad))
	checkUnfound(t, "no frame", head[8:]+"sss", hashed(head[8:]))
}

func TestFindAmongTwo(t *testing.T) {
	a, b := keptOf("the first pack", 2, 2), keptOf("the other pack", 2, 2)
	side := a.side[:a.unit()] + b.side[b.unit():]
	checkFound(t, "the first's", side, a.sum, a.table)
	checkFound(t, "the other's", side, b.sum, b.table)
	checkLocate(t, "the first's", a.pack, side, a.sum, []int{3})
	checkLocate(t, "the other's", b.pack, side, b.sum, []int{2})
	checkRepair(t, "the first's", a.pack, side, a, []int{3})
	checkRepair(t, "the other's", b.pack, side, b, []int{2})
	// The pack of the one with the other's table has but what both have.
	checkLocate(t, "the first pack, the other's table", a.pack, side, b.sum, []int{0, 1, 2})
	checkUnrepaired(t, "the first pack, the other's table", a.pack, side, b.whole, b.sum)
	// A shard of its own behind the other's table is damaged all the same, and serves.
	side = a.head + b.side[b.unit()-7:b.unit()] + b.head + a.side[2*a.unit()-7:]
	checkLocate(t, "tables changed over", a.pack, side, a.sum, []int{2, 3})
	checkRepair(t, "tables changed over", a.pack, side, a, []int{2, 3})
}

// What is damaged.

// touched is a place of a unit, of the shard or of the table ahead of it.
type touched struct {
	unit   int
	isHead bool
}

// places are all of them that have a byte which can be touched.
func (k kept) places() []touched {
	var l []touched
	size := k.unit() - len(k.head)
	for i := range k.table.Data {
		if i*size < len(k.pack) {
			l = append(l, touched{unit: i})
		}
	}
	for i := range k.table.Parity {
		if size > 0 {
			l = append(l, touched{unit: k.table.Data + i})
		}
		l = append(l, touched{unit: k.table.Data + i, isHead: true})
	}
	return l
}

// touch overwrites one byte or some at a place.
func (k kept) touch(pack, side string, p touched, r *rand.Rand) (string, string) {
	size := k.unit() - len(k.head)
	if p.unit < k.table.Data {
		first := p.unit * size
		return over(pack, first, min(first+size, len(pack)), r), side
	}
	first := (p.unit - k.table.Data) * k.unit()
	if p.isHead {
		return pack, over(side, first, first+len(k.head), r)
	}
	return pack, over(side, first+len(k.head), first+k.unit(), r)
}

// over is s with at least one byte from first to end turned.
func over(s string, first, end int, r *rand.Rand) string {
	b := []byte(s)
	if r.Intn(4) == 0 {
		r.Read(b[first:end])
	}
	at := first + r.Intn(end-first)
	b[at] = s[at] ^ byte(1+r.Intn(255))
	return string(b)
}

// checkTouched holds Locate and Repair to what they say of damage of just such places.
func checkTouched(t *testing.T, k kept, l []touched, r *rand.Rand) {
	t.Helper()
	pack, side := k.pack, k.side
	var units []int
	heads, isPackTouched := 0, false
	for _, p := range l {
		pack, side = k.touch(pack, side, p, r)
		if !slices.Contains(units, p.unit) {
			units = append(units, p.unit)
		}
		if p.isHead {
			heads++
		}
		isPackTouched = isPackTouched || p.unit < k.table.Data
	}
	isTable := heads < k.table.Parity
	if isTable {
		checkLocate(t, "touched", pack, side, k.sum, units)
	} else {
		checkUnlocated(t, "touched", pack, side, k.sum)
	}
	switch {
	case isTable && len(units) <= k.table.Parity:
		checkRepair(t, "touched", pack, side, k, units)
	case !isPackTouched:
		checkRepair(t, "all tables touched", pack, side, k, k.parityUnits())
	default:
		checkUnrepaired(t, "touched", pack, side, k.whole, k.sum)
	}
}

func TestEachSetOfPlaces(t *testing.T) {
	r := rand.New(rand.NewSource(3))
	for _, n := range [][2]int{{1, 1}, {2, 1}, {1, 2}, {4, 1}, {2, 2}, {3, 2}, {1, 3}, {2, 3}, {5, 2}} {
		for _, size := range []int{0, 1, 2, 7, 64} {
			k := keptOf(some(r, size), n[0], n[1])
			all := k.places()
			for set := range 1 << len(all) {
				var l []touched
				for i, p := range all {
					if set>>i&1 == 1 {
						l = append(l, p)
					}
				}
				checkTouched(t, k, l, r)
			}
		}
	}
}

func TestSetsOfPlacesOfMany(t *testing.T) {
	r := rand.New(rand.NewSource(4))
	for _, n := range [][2]int{{32, 32}, {32, 1}, {1, 63}, {10, 4}, {20, 20}, {31, 33}} {
		for _, size := range []int{40, 333} {
			k := keptOf(some(r, size), n[0], n[1])
			all := k.places()
			for range 40 {
				l := slices.Clone(all)
				r.Shuffle(len(l), func(i, j int) { l[i], l[j] = l[j], l[i] })
				l = l[:min(len(l), r.Intn(n[1]+3))]
				slices.SortFunc(l, func(a, b touched) int { return a.unit - b.unit })
				checkTouched(t, k, l, r)
			}
		}
	}
}

func TestEachByteTurned(t *testing.T) {
	for _, k := range []kept{keptOf("abcde", 2, 1), keptOf("some more bytes than these", 3, 2), keptOf("0123456789", 4, 3), keptOf("x", 1, 1)} {
		for _, b := range []byte{1, 128, 255} {
			for at := range k.pack {
				unit := at / (k.unit() - len(k.head))
				pack := turned(k.pack, at, b)
				checkLocate(t, "the pack", pack, k.side, k.sum, []int{unit})
				checkRepair(t, "the pack", pack, k.side, k, []int{unit})
			}
			for at := range k.side {
				units := []int{k.table.Data + at/k.unit()}
				side := turned(k.side, at, b)
				checkRepair(t, "the side-car", k.pack, side, k, units)
				if k.table.Parity == 1 && at < len(k.head) {
					checkUnlocated(t, "the one table", k.pack, side, k.sum)
					checkUnrepaired(t, "the one table, and the pack", turned(k.pack, 0, b), side, k.whole, k.sum)
					continue
				}
				checkLocate(t, "the side-car", k.pack, side, k.sum, units)
			}
		}
	}
}

func TestWholeUnitsOverwritten(t *testing.T) {
	r := rand.New(rand.NewSource(5))
	for range 200 {
		data, others := 1+r.Intn(8), 1+r.Intn(6)
		k := keptOf(some(r, data*(20+r.Intn(40))), data, others)
		size := k.unit() - len(k.head)
		pack, side := []byte(k.pack), []byte(k.side)
		lost := r.Perm(data + others)[:1+r.Intn(others)]
		slices.Sort(lost)
		for _, i := range lost {
			if i < data {
				r.Read(pack[i*size : (i+1)*size])
				continue
			}
			r.Read(side[(i-data)*k.unit() : (i-data+1)*k.unit()])
		}
		if lost[0] >= data && len(lost) == others {
			checkUnlocated(t, "all parity lost", string(pack), string(side), k.sum)
		} else {
			checkLocate(t, "units lost", string(pack), string(side), k.sum, lost)
		}
		checkRepair(t, "units lost", string(pack), string(side), k, lost)
	}
}

func TestPackOfAnotherLength(t *testing.T) {
	k := keptOf("abcde", 2, 2)
	for what, pack := range map[string]string{
		"nothing": "", "a byte less": "abcd", "two bytes less": "abc", "a byte more": "abcde\x00", "twice": "abcdeabcde", "a byte off the front": "bcde", "much more": strings.Repeat("abcde", 100),
	} {
		checkUnlocated(t, what, pack, k.side, k.sum)
		checkUnrepaired(t, what, pack, k.side, k.whole, k.sum)
		checkUnrepaired(t, what+", by its own sum", pack, k.side, hashed(pack), k.sum)
	}
}

func TestPacksOfNothing(t *testing.T) {
	r := rand.New(rand.NewSource(6))
	for _, n := range [][2]int{{1, 1}, {1, 2}, {3, 2}, {32, 32}} {
		k := keptOf("", n[0], n[1])
		checkBuilt(t, k)
		checkLocate(t, "nothing", "", k.side, k.sum, nil)
		checkRepair(t, "nothing", "", k.side, k, nil)
		checkUnlocated(t, "no tables", "", k.withoutTables(r), k.sum)
		checkRepair(t, "no tables", "", k.withoutTables(r), k, k.parityUnits())
		checkUnlocated(t, "a byte", "\x00", k.side, k.sum)
		checkUnrepaired(t, "a byte", "\x00", k.side, k.whole, k.sum)
	}
	checkNothing(t, "nothing at all", "", "", hashed(""), hashed(""))
	checkNothing(t, "no side-car", "abcde", "", hashed("abcde"), hashed(""))
}

// Where no table is left.

func TestNoTablesOfAnyNumbers(t *testing.T) {
	r := rand.New(rand.NewSource(7))
	for _, n := range allNumbers() {
		k := keptOf(some(r, r.Intn(100)), n[0], n[1])
		side := k.withoutTables(r)
		checkUnlocated(t, "no tables", k.pack, side, k.sum)
		checkRepair(t, "no tables", k.pack, side, k, k.parityUnits())
	}
}

func TestNoSideCarLeft(t *testing.T) {
	r := rand.New(rand.NewSource(8))
	for _, n := range [][2]int{{2, 1}, {2, 2}, {6, 3}, {32, 32}} {
		k := keptOf(some(r, 200), n[0], n[1])
		for what, side := range map[string]string{"zeros": strings.Repeat("\x00", len(k.side)), "any bytes": some(r, len(k.side)), "a long frame": strings.Repeat("\x7f", len(k.side))} {
			checkUnlocated(t, what, k.pack, side, k.sum)
			checkRepair(t, what, k.pack, side, k, k.parityUnits())
			checkNothing(t, what+", a byte more", k.pack, side+"\x00", k.whole, k.sum)
			checkNothing(t, what+", a byte less", k.pack, side[1:], k.whole, k.sum)
			checkNothing(t, what+", another pack", turned(k.pack, 9, 1), side, k.whole, k.sum)
			checkNothing(t, what+", another pack's sum", turned(k.pack, 9, 1), side, hashed(turned(k.pack, 9, 1)), k.sum)
			checkNothing(t, what+", another sum", k.pack, side, k.whole, hashed("else"))
		}
	}
}

// Where the pack is what it was, but a table that does not serve is there.

func TestAnotherPacksTableIsThere(t *testing.T) {
	a, b := keptOf("the first pack", 2, 2), keptOf("the other pack", 2, 2)
	checkRepair(t, "the other's side-car", a.pack, b.side, a, []int{2, 3})
	checkUnlocated(t, "the other's side-car", a.pack, b.side, a.sum)
	checkUnrepaired(t, "the other's side-car and pack", b.pack, b.side, a.whole, a.sum)
	checkUnrepaired(t, "the other's side-car and sum", a.pack, b.side, a.whole, b.sum)
	// Its table tells all of the pack's damaged that are unlike.
	checkLocate(t, "the other's side-car and sum", a.pack, b.side, b.sum, []int{0, 1})
	checkUnrepaired(t, "another whole", a.pack, a.side, b.whole, a.sum)
	checkUnrepaired(t, "another whole, one damaged", turned(a.pack, 0, 1), a.side, b.whole, a.sum)
	checkUnrepaired(t, "no whole", a.pack, a.side, api.Id{}, a.sum)
	checkUnrepaired(t, "the damaged one's whole", turned(a.pack, 0, 1), a.side, hashed(turned(a.pack, 0, 1)), a.sum)
	checkUnrepaired(t, "the sums changed over", a.pack, a.side, a.sum, a.whole)
}

// Tables that no pack has.

func TestOtherBytesBehindTheEnd(t *testing.T) {
	all := unitsOf("abcdeX", 2, 2)
	x := tableOf(all, 2, 5)
	head := tableBytes(x)
	side := sideOf(head, all[2:])
	checkFound(t, "another byte than 0", side, hashed(head), x)
	checkLocate(t, "another byte than 0", "abcde", side, hashed(head), []int{1})
	checkUnrepaired(t, "another byte than 0", "abcde", side, hashed("abcde"), hashed(head))
	checkUnrepaired(t, "another byte than 0, one more damaged", "Xbcde", side, hashed("abcde"), hashed(head))
	// With the Size that these shards have it is a pack's.
	k := keptOf("abcdeX", 2, 2)
	checkRepair(t, "its Size", "abcdeX", k.side, k, nil)
}

func TestShardsThatDoNotGoTogether(t *testing.T) {
	good := unitsOf("some bytes", 2, 2)
	for i := range good {
		all := slices.Clone(good)
		all[i] = turned(all[i], 1, 1)
		pack := all[0] + all[1]
		head := tableBytes(tableOf(all, 2, len(pack)))
		side := sideOf(head, all[2:])
		checkLocate(t, "each as its sum says", pack, side, hashed(head), nil)
		checkUnrepaired(t, "each as its sum says", pack, side, hashed(pack), hashed(head))
		for at := range pack {
			checkLocate(t, "one damaged", turned(pack, at, 1), side, hashed(head), []int{at / 5})
			checkUnrepaired(t, "one damaged", turned(pack, at, 1), side, hashed(pack), hashed(head))
		}
		checkUnrepaired(t, "a head damaged", pack, turned(side, 0, 1), hashed(pack), hashed(head))
	}
}

func TestSumsOfNothing(t *testing.T) {
	k := keptOf("abcde", 2, 2)
	for i := range k.table.Sums {
		x := k.table
		x.Sums = slices.Clone(x.Sums)
		x.Sums[i][31] ^= 1
		head := tableBytes(x)
		side := sideOf(head, unitsOf("abcde", 2, 2)[2:])
		checkLocate(t, "a false sum", "abcde", side, hashed(head), []int{i})
		checkUnrepaired(t, "a false sum", "abcde", side, hashed("abcde"), hashed(head))
	}
}

// Held against a plainer reckoning.

type asked struct {
	pack, side string
	whole, sum api.Id
}

// modelFind asks for tables that are known of the start.
func modelFind(a asked, known []kept) (kept, bool) {
	for _, k := range known {
		if k.sum != a.sum || len(a.side) != k.table.Parity*k.unit() {
			continue
		}
		for at := 0; at < len(a.side); at += k.unit() {
			if strings.HasPrefix(a.side[at:], k.head) {
				return k, true
			}
		}
	}
	return kept{}, false
}

func modelLocate(a asked, known []kept) ([]int, bool) {
	k, is := modelFind(a, known)
	if !is || len(a.pack) != k.table.Size {
		return nil, false
	}
	var units []int
	for i := range k.table.Sums {
		if modelShard(a, k, i) == "" || hashed(modelShard(a, k, i)[1:]) != k.table.Sums[i] {
			units = append(units, i)
		}
	}
	return units, true
}

// modelShard is a unit's shard behind an x, or nothing where another table stands ahead of it.
func modelShard(a asked, k kept, i int) string {
	size := k.unit() - len(k.head)
	if i < k.table.Data {
		padded := a.pack + strings.Repeat("\x00", size*k.table.Data-len(a.pack))
		return "x" + padded[i*size:(i+1)*size]
	}
	unit := a.side[(i-k.table.Data)*k.unit():][:k.unit()]
	if !strings.HasPrefix(unit, k.head) {
		return ""
	}
	return "x" + unit[len(k.head):]
}

func modelRepair(a asked, known []kept) (parity.Mended, bool) {
	if units, is := modelLocate(a, known); is {
		k, _ := modelFind(a, known)
		if len(units) <= k.table.Parity && k.whole == a.whole {
			return parity.Mended{Pack: k.pack, Side: k.side, Units: units}, true
		}
	}
	if hashed(a.pack) != a.whole {
		return parity.Mended{}, false
	}
	for _, n := range allNumbers() {
		unit := 8 + 3 + len(shortNumber(len(a.pack))) + 32*(n[0]+n[1]) + (len(a.pack)+n[0]-1)/n[0]
		if unit*n[1] != len(a.side) {
			continue
		}
		if k := keptOf(a.pack, n[0], n[1]); k.sum == a.sum {
			return parity.Mended{Pack: k.pack, Side: k.side, Units: k.parityUnits()}, true
		}
	}
	return parity.Mended{}, false
}

func checkModel(t *testing.T, a asked, known []kept) {
	t.Helper()
	if k, is := modelFind(a, known); is {
		checkFound(t, "model", a.side, a.sum, k.table)
	} else {
		checkUnfound(t, "model", a.side, a.sum)
	}
	if units, is := modelLocate(a, known); is {
		checkLocate(t, "model", a.pack, a.side, a.sum, units)
	} else {
		checkUnlocated(t, "model", a.pack, a.side, a.sum)
	}
	if m, is := modelRepair(a, known); is {
		checkRepair(t, "model", a.pack, a.side, kept{pack: m.Pack, side: m.Side, whole: a.whole, sum: a.sum}, m.Units)
	} else {
		checkUnrepaired(t, "model", a.pack, a.side, a.whole, a.sum)
	}
}

// spoiled is s as a disk may leave it: bytes turned, runs of another's, bytes cut away or put on.
func spoiled(s, other string, r *rand.Rand) string {
	for range r.Intn(4) {
		if s == "" {
			return s
		}
		at := r.Intn(len(s))
		switch r.Intn(12) {
		case 0:
			s = s[:at]
		case 1:
			s += other[:min(len(other), r.Intn(9))]
		case 2, 3:
			n := min(len(s)-at, 1+r.Intn(len(s)))
			s = s[:at] + strings.Repeat("\x00", n) + s[at+n:]
		case 4, 5, 6:
			n := min(len(s), len(other))
			first := r.Intn(n + 1)
			end := first + r.Intn(n-first+1)
			s = s[:first] + other[first:end] + s[end:]
		default:
			s = turned(s, at, byte(1+r.Intn(255)))
		}
	}
	return s
}

func TestAnyDamage(t *testing.T) {
	r := rand.New(rand.NewSource(9))
	for range 400 {
		data, others, size := 1+r.Intn(4), 1+r.Intn(4), 1+r.Intn(200)
		known := []kept{keptOf(some(r, size), data, others), keptOf(some(r, size), data, others), keptOf(some(r, size+r.Intn(2)), data, others), keptOf(some(r, size), 1+r.Intn(3), others)}
		for range 40 {
			k, other := known[r.Intn(4)], known[r.Intn(4)]
			a := asked{pack: spoiled(k.pack, other.pack, r), side: spoiled(k.side, other.side, r), whole: k.whole, sum: k.sum}
			switch r.Intn(12) {
			case 0:
				a.whole = other.whole
			case 1:
				a.sum = other.sum
			case 2:
				a.whole = hashed(a.pack)
			case 3:
				a.pack = k.pack
			}
			checkModel(t, a, known)
		}
	}
}

// What is rebuilt is what the layer below says, whichever units are there.
func TestRepairGoesWithShards(t *testing.T) {
	r := rand.New(rand.NewSource(10))
	pack := some(r, 1000)
	k := keptOf(pack, 7, 3)
	first, _ := shards.Cut(pack, 7)
	others, _ := shards.Encode(first, 3)
	if side := sideOf(k.head, others); side != k.side {
		t.Fatal("the side-car is not of the shards")
	}
	for range 50 {
		lost := r.Perm(7)[:3]
		slices.Sort(lost)
		b := []byte(pack)
		for _, i := range lost {
			b[i*143] ^= byte(1 + r.Intn(255))
		}
		checkRepair(t, "three of the pack's", string(b), k.side, k, lost)
	}
}

// Bounds.

func TestMostThatAPackHas(t *testing.T) {
	pack := strings.Repeat("0123456789abcdef", api.MaxPack/16)
	checkUnbuilt(t, pack+"0", 1, 1)
	checkUnbuilt(t, pack+"0", 32, 1)
	checkUnbuilt(t, pack+"0", 32, 32)
	side, sum, e := parity.Build(pack, 32, 1)
	unit := 8 + 7 + 33*32 + api.MaxPack/32
	if len(side) != unit || e != api.OK {
		t.Fatalf("Build of MaxPack bytes: %d bytes, %v; want %d", len(side), e, unit)
	}
	whole := hashed(pack)
	b := []byte(pack)
	b[api.MaxPack-1] ^= 1
	checkLocate(t, "its last byte", string(b), side, sum, []int{31})
	m, e := parity.Repair(string(b), side, whole, sum)
	if m.Pack != pack || m.Side != side || !slices.Equal(m.Units, []int{31}) || e != api.OK {
		t.Errorf("Repair of MaxPack bytes: %d bytes, %d bytes, %v, %v", len(m.Pack), len(m.Side), m.Units, e)
	}
	checkUnlocated(t, "a byte more", pack+"0", side, sum)
	checkUnrepaired(t, "a byte more", pack+"0", side, hashed(pack+"0"), sum)
}

// A side-car of frames that say more than there is costs no more than any.
func TestLongSideCarsOfNoTable(t *testing.T) {
	k := keptOf(strings.Repeat("abcd", 1<<14), 4, 1)
	long := strings.Repeat("\x00\x00\x40\x00\x01\x02\x03\x04", 1<<18)
	checkNothing(t, "frames", k.pack, long, k.whole, k.sum)
	checkNothing(t, "zeros", k.pack, strings.Repeat("\x00", 1<<21), k.whole, k.sum)
}

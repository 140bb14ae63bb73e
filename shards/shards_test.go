package shards_test

import (
	"math"
	"math/rand"
	"slices"
	"strings"
	"testing"

	"muniment/api"
	"muniment/field"
	"muniment/shards"
)

func cut(t *testing.T, s string, k int) []string {
	t.Helper()
	l, e := shards.Cut(s, k)
	if e != api.OK {
		t.Fatalf("Cut of %d bytes into %d: %v", len(s), k, e)
	}
	return l
}

func whole(t *testing.T, l []string, n int) string {
	t.Helper()
	s, e := shards.Whole(l, n)
	if e != api.OK {
		t.Fatalf("Whole of %d shards, %d bytes: %v", len(l), n, e)
	}
	return s
}

func encode(t *testing.T, data []string, m int) []string {
	t.Helper()
	l, e := shards.Encode(data, m)
	if e != api.OK {
		t.Fatalf("Encode of %d shards, %d parity shards: %v", len(data), m, e)
	}
	return l
}

func rebuild(t *testing.T, all []string, there []bool, k int) []string {
	t.Helper()
	l, e := shards.Rebuild(all, there, k)
	if e != api.OK {
		t.Fatalf("Rebuild of %d shards, %d of data, %v: %v", len(all), k, there, e)
	}
	return l
}

func fits(t *testing.T, all []string, k int) bool {
	t.Helper()
	is, e := shards.Fits(all, k)
	if e != api.OK {
		t.Fatalf("Fits of %d shards, %d of data: %v", len(all), k, e)
	}
	return is
}

// some is a text of so many bytes.
func some(r *rand.Rand, n int) string {
	b := make([]byte, n)
	r.Read(b)
	return string(b)
}

// several are k texts of so many bytes.
func several(r *rand.Rand, k, n int) []string {
	l := make([]string, k)
	for i := range l {
		l[i] = some(r, n)
	}
	return l
}

// fitting are k shards of data and m of parity, which go together.
func fitting(t *testing.T, r *rand.Rand, k, m, n int) []string {
	t.Helper()
	data := several(r, k, n)
	return append(data, encode(t, data, m)...)
}

// reckoned is the parity by the chapter's words.
func reckoned(t *testing.T, data []string, m int) []string {
	t.Helper()
	l := make([]string, m)
	if m == 0 {
		return l
	}
	rows, e := field.Cauchy(m, len(data))
	if e != api.OK {
		t.Fatal(e)
	}
	for i := range l {
		shard := make([]byte, len(data[0]))
		for at := range shard {
			for j := range data {
				shard[at] ^= field.Times(rows[i][j], data[j][at])
			}
		}
		l[i] = string(shard)
	}
	return l
}

// without says of n shards that all are there but those.
func without(n int, missing ...int) []bool {
	there := make([]bool, n)
	for i := range there {
		there[i] = !slices.Contains(missing, i)
	}
	return there
}

// changed are shards of which one has another byte at a place.
func changed(all []string, which, at int, by uint8) []string {
	l := slices.Clone(all)
	b := []byte(l[which])
	b[at] ^= by
	l[which] = string(b)
	return l
}

// over is two texts of one length laid over one another.
func over(a, b string) string {
	l := []byte(a)
	for i := range l {
		l[i] ^= b[i]
	}
	return string(l)
}

// spoilt are shards in whose missing places stands something else, of any length.
func spoilt(all []string, there []bool) []string {
	l := slices.Clone(all)
	for i := range l {
		if !there[i] {
			l[i] = strings.Repeat("?", i%3*len(l[i]))
		}
	}
	return l
}

// sizes are numbers of data and of parity shards, the edges among them.
func sizes() [][2]int {
	return [][2]int{{1, 0}, {1, 1}, {1, 2}, {1, 62}, {1, 63}, {2, 0}, {2, 1}, {2, 2}, {2, 62}, {3, 5}, {4, 2}, {7, 3}, {16, 48}, {31, 1}, {31, 33}, {32, 0}, {32, 1}, {32, 2}, {32, 31}, {32, 32}}
}

// noData are numbers of shards that can not have the data.
func noData() []int {
	return []int{0, -1, 33, 34, 64, 65, -32, 256, 257, 288, 1 << 16, 1<<32 + 1, math.MaxInt32, math.MinInt32, math.MaxInt, math.MinInt}
}

func TestLimits(t *testing.T) {
	if shards.MaxData != 32 || shards.MaxAll != 64 {
		t.Errorf("the limits are %d, %d", shards.MaxData, shards.MaxAll)
	}
}

func TestExamplesOfTexts(t *testing.T) {
	if l := cut(t, "abcde", 2); !slices.Equal(l, []string{"abc", "de\x00"}) {
		t.Errorf("Cut(abcde, 2) is %q", l)
	}
	if l := cut(t, "", 3); !slices.Equal(l, []string{"", "", ""}) {
		t.Errorf("Cut(nothing, 3) is %q", l)
	}
	if s := whole(t, []string{"abc", "de?"}, 5); s != "abcde" {
		t.Errorf("Whole(abc de?, 5) is %q", s)
	}
	if s, e := shards.Whole([]string{"ab", "c"}, 1); s != "" || e != api.ErrArg {
		t.Errorf("Whole(ab c, 1) is %q, %v", s, e)
	}
	for _, k := range []int{0, 33} {
		if l, e := shards.Cut("a", k); len(l) != 0 || e != api.ErrArg {
			t.Errorf("Cut(a, %d) is %q, %v", k, l, e)
		}
	}
}

func TestExamplesOfParity(t *testing.T) {
	inverse, e := field.Over(1, 128)
	if e != api.OK {
		t.Fatal(e)
	}
	if l := encode(t, []string{"\x05"}, 1); !slices.Equal(l, []string{string([]byte{field.Times(inverse, 5)})}) {
		t.Errorf("Encode(05, 1) is %q", l)
	}
	if l := encode(t, []string{"any", "ones"[:3]}, 0); len(l) != 0 {
		t.Errorf("Encode(any, 0) is %q", l)
	}
	if l, e := shards.Encode(nil, 1); len(l) != 0 || e != api.ErrArg {
		t.Errorf("Encode(none, 1) is %q, %v", l, e)
	}
}

func TestExamplesOfMissing(t *testing.T) {
	r := rand.New(rand.NewSource(1))
	all := fitting(t, r, 2, 2, 9)
	for i := range all {
		for j := range i {
			there := without(4, i, j)
			if l := rebuild(t, spoilt(all, there), there, 2); !slices.Equal(l, all) {
				t.Errorf("without %d and %d: %q, want %q", j, i, l, all)
			}
		}
		there := make([]bool, 4)
		there[i] = true
		if l, e := shards.Rebuild(all, there, 2); len(l) != 0 || e != api.ErrLost {
			t.Errorf("with %d alone: %q, %v", i, l, e)
		}
	}
	other := append(slices.Clone(all[:2]), several(r, 2, 9)...)
	if l := rebuild(t, other, without(4), 2); !slices.Equal(l, all) {
		t.Errorf("where all are there: %q, want %q", l, all)
	}
}

// TestCut holds it against the chapter's words, and asks P7.3's first half: Whole tells the text.
func TestCut(t *testing.T) {
	r := rand.New(rand.NewSource(2))
	lengths := []int{1000, 1023, 1024, 1025, 65536, 65537}
	for n := range 140 {
		lengths = append(lengths, n)
	}
	for _, n := range lengths {
		s := some(r, n)
		for k := 1; k <= shards.MaxData; k++ {
			each := int(math.Ceil(float64(n) / float64(k)))
			filled := s + strings.Repeat("\x00", each*k-n)
			l := cut(t, s, k)
			if len(l) != k {
				t.Fatalf("Cut of %d bytes into %d: %d shards", n, k, len(l))
			}
			for i := range l {
				if l[i] != filled[i*each:(i+1)*each] {
					t.Fatalf("Cut of %d bytes into %d: number %d is %q", n, k, i, l[i])
				}
			}
			if whole(t, l, n) != s || whole(t, l, each*k) != filled {
				t.Fatalf("Cut of %d bytes into %d: Whole is another text", n, k)
			}
		}
	}
}

func TestCutRefused(t *testing.T) {
	for _, k := range noData() {
		for _, s := range []string{"", "a", strings.Repeat("abc", 100)} {
			if l, e := shards.Cut(s, k); len(l) != 0 || e != api.ErrArg {
				t.Errorf("Cut of %d bytes into %d: %q, %v", len(s), k, l, e)
			}
		}
	}
}

func TestWhole(t *testing.T) {
	r := rand.New(rand.NewSource(3))
	for _, k := range []int{1, 2, 3, 31, 32} {
		for _, each := range []int{0, 1, 2, 7} {
			l := several(r, k, each)
			for n := range k*each + 1 {
				if s := whole(t, l, n); s != strings.Join(l, "")[:n] {
					t.Fatalf("Whole(%q, %d) is %q", l, n, s)
				}
			}
			for _, n := range []int{-1, k*each + 1, k*each + 2, math.MaxInt, math.MinInt, math.MaxInt32, math.MinInt32, 1 << 32, -1 << 32} {
				if s, e := shards.Whole(l, n); s != "" || e != api.ErrArg {
					t.Errorf("Whole of %d shards of %d, %d: %q, %v", k, each, n, s, e)
				}
			}
		}
	}
}

// uneven are lists that have not one length, at each place.
func uneven(k int) [][]string {
	lists := [][]string{}
	for i := range k {
		for _, other := range []string{"", "a", "abc", "abcd"} {
			l := slices.Repeat([]string{"ab"}, k)
			l[i] = other
			lists = append(lists, l)
		}
	}
	return lists
}

// noLists are lists of shards that can not be the data.
func noLists() [][]string {
	lists := [][]string{nil, {}, make([]string, 33), make([]string, 64), make([]string, 65), slices.Repeat([]string{"ab"}, 33), slices.Repeat([]string{"ab"}, 300)}
	for _, k := range []int{2, 3, 32} {
		lists = append(lists, uneven(k)...)
	}
	return lists
}

func TestNoLists(t *testing.T) {
	for _, l := range noLists() {
		for _, n := range []int{0, 1, 2} {
			if s, e := shards.Whole(l, n); s != "" || e != api.ErrArg {
				t.Errorf("Whole(%q, %d) is %q, %v", l, n, s, e)
			}
			if p, e := shards.Encode(l, n); len(p) != 0 || e != api.ErrArg {
				t.Errorf("Encode(%q, %d) is %q, %v", l, n, p, e)
			}
		}
	}
}

func TestEncode(t *testing.T) {
	r := rand.New(rand.NewSource(4))
	for k := 1; k <= shards.MaxData; k++ {
		for _, m := range []int{0, 1, 2, 5, 63 - k, 64 - k} {
			for _, n := range []int{0, 1, 3, 17} {
				data := several(r, k, n)
				if p := encode(t, data, m); !slices.Equal(p, reckoned(t, data, m)) {
					t.Fatalf("Encode of %d shards of %d bytes, %d: %q", k, n, m, p)
				}
			}
		}
	}
}

// TestEveryByte asks of every byte by every number of the widest matrices.
func TestEveryByte(t *testing.T) {
	every := make([]byte, 256)
	for i := range every {
		every[i] = byte(i)
	}
	data := slices.Repeat([]string{""}, shards.MaxData)
	for j := range data {
		for i := range data {
			data[i] = strings.Repeat("\x00", 256)
		}
		data[j] = string(every)
		if p := encode(t, data, shards.MaxAll-shards.MaxData); !slices.Equal(p, reckoned(t, data, shards.MaxAll-shards.MaxData)) {
			t.Fatalf("the parity of all bytes in number %d is %q", j, p)
		}
	}
	if p := encode(t, []string{string(every)}, 63); !slices.Equal(p, reckoned(t, []string{string(every)}, 63)) {
		t.Fatalf("the parity of all bytes is %q", p)
	}
}

func TestEncodeRefused(t *testing.T) {
	for k := 1; k <= shards.MaxData; k++ {
		data := slices.Repeat([]string{"abc"}, k)
		for _, m := range []int{-1, -2, -64, 65 - k, 66 - k, 64, 65, 256, 1 << 32, math.MaxInt, math.MaxInt - k, math.MaxInt32, math.MinInt, math.MinInt32} {
			if p, e := shards.Encode(data, m); len(p) != 0 || e != api.ErrArg {
				t.Errorf("Encode of %d shards, %d: %q, %v", k, m, p, e)
			}
		}
	}
}

// TestEveryMissing asks P7.4 of every set of missing shards, where there are few: those that are too many are ErrLost.
func TestEveryMissing(t *testing.T) {
	r := rand.New(rand.NewSource(5))
	for k := 1; k <= 6; k++ {
		for m := 0; k+m <= 8; m++ {
			all := fitting(t, r, k, m, 1+r.Intn(4))
			for set := range 1 << (k + m) {
				missing := []int{}
				for i := range k + m {
					if set>>i&1 == 1 {
						missing = append(missing, i)
					}
				}
				there := without(k+m, missing...)
				l, e := shards.Rebuild(spoilt(all, there), there, k)
				if len(missing) > m && (len(l) != 0 || e != api.ErrLost) {
					t.Fatalf("%d and %d without %v: %q, %v", k, m, missing, l, e)
				}
				if len(missing) <= m && (!slices.Equal(l, all) || e != api.OK) {
					t.Fatalf("%d and %d without %v: %q, %v, want %q", k, m, missing, l, e, all)
				}
			}
		}
	}
}

// TestManyMissing asks P7.4 of the edges' numbers, with as many missing as may be, and one more.
func TestManyMissing(t *testing.T) {
	r := rand.New(rand.NewSource(6))
	for _, x := range sizes() {
		k, m := x[0], x[1]
		for _, n := range []int{0, 1, 40} {
			all := fitting(t, r, k, m, n)
			for try := range 8 {
				order := r.Perm(k + m)
				if try == 0 {
					slices.Sort(order) // the data are the first to go
				}
				for _, gone := range []int{0, m / 2, m} {
					there := without(k+m, order[:gone]...)
					if l := rebuild(t, spoilt(all, there), there, k); !slices.Equal(l, all) {
						t.Fatalf("%d and %d without %v: %q", k, m, order[:gone], l)
					}
				}
				if l, e := shards.Rebuild(all, without(k+m, order[:m+1]...), k); len(l) != 0 || e != api.ErrLost {
					t.Fatalf("%d and %d without %v: %q, %v", k, m, order[:m+1], l, e)
				}
			}
		}
	}
}

// TestFirstOnes asks P7.2: what stands behind the first k that are there is not used, though it is there.
func TestFirstOnes(t *testing.T) {
	r := rand.New(rand.NewSource(7))
	for _, x := range sizes() {
		k, m := x[0], x[1]
		for range 5 {
			all := fitting(t, r, k, m, 6)
			there := without(k+m, r.Perm(k + m)[:r.Intn(m+1)]...)
			junk, left := slices.Clone(all), k
			for i := range junk {
				if there[i] && left == 0 {
					junk[i] = some(r, 6)
				} else if there[i] {
					left--
				}
			}
			if l := rebuild(t, spoilt(junk, there), there, k); !slices.Equal(l, all) {
				t.Fatalf("%d and %d, %v: %q, want %q", k, m, there, l, all)
			}
		}
	}
}

// TestAnyShards asks of shards that do not fit: whatever the first k are, what is told fits, and has them.
func TestAnyShards(t *testing.T) {
	r := rand.New(rand.NewSource(8))
	for _, x := range sizes() {
		k, m := x[0], x[1]
		all := several(r, k+m, 5)
		there := without(k+m, r.Perm(k + m)[:m]...)
		l := rebuild(t, all, there, k)
		if len(l) != k+m || !fits(t, l, k) {
			t.Fatalf("%d and %d: %d shards are told, which do not fit", k, m, len(l))
		}
		for i := range l {
			if there[i] && l[i] != all[i] {
				t.Fatalf("%d and %d: number %d is %q, want %q", k, m, i, l[i], all[i])
			}
		}
	}
}

// grouped are numbers of all shards and of those with the data that do not go together.
func grouped() [][2]int {
	l := [][2]int{{0, 1}, {1, 2}, {31, 32}, {65, 1}, {65, 32}, {66, 2}, {128, 32}, {320, 32}}
	for _, k := range noData() {
		l = append(l, [2]int{0, k}, [2]int{1, k}, [2]int{33, k}, [2]int{64, k}, [2]int{65, k})
	}
	return l
}

func TestNotTogether(t *testing.T) {
	for _, x := range grouped() {
		n, k := x[0], x[1]
		all := slices.Repeat([]string{"ab"}, n)
		for _, there := range [][]bool{without(n), make([]bool, n)} {
			if l, e := shards.Rebuild(all, there, k); len(l) != 0 || e != api.ErrArg {
				t.Errorf("Rebuild of %d shards, %d of data: %q, %v", n, k, l, e)
			}
		}
		if is, e := shards.Fits(all, k); is || e != api.ErrArg {
			t.Errorf("Fits of %d shards, %d of data: %v, %v", n, k, is, e)
		}
	}
}

func TestThereOfOthers(t *testing.T) {
	all := slices.Repeat([]string{"ab"}, 4)
	for _, n := range []int{0, 1, 2, 3, 5, 6, 64, 65, 1000} {
		for _, there := range [][]bool{without(n), make([]bool, n)} {
			if l, e := shards.Rebuild(all, there, 2); len(l) != 0 || e != api.ErrArg {
				t.Errorf("Rebuild where there says of %d: %q, %v", n, l, e)
			}
		}
	}
	if l, e := shards.Rebuild(all, nil, 2); len(l) != 0 || e != api.ErrArg {
		t.Errorf("Rebuild where there says nothing: %q, %v", l, e)
	}
}

// TestUneven asks also for the order: too few that have not one length are ErrArg.
func TestUneven(t *testing.T) {
	for _, n := range []int{2, 5, 64} {
		for k := 1; k <= min(n, shards.MaxData); k++ {
			for i, all := range uneven(n) {
				odd := i / 4
				if l, e := shards.Rebuild(all, without(n), k); len(l) != 0 || e != api.ErrArg {
					t.Fatalf("Rebuild(%q, %d) is %q, %v", all, k, l, e)
				}
				if is, e := shards.Fits(all, k); is || e != api.ErrArg {
					t.Fatalf("Fits(%q, %d) is %v, %v", all, k, is, e)
				}
				two := make([]bool, n)
				two[odd], two[(odd+1)%n] = true, true
				if l, e := shards.Rebuild(all, two, k); len(l) != 0 || e != api.ErrArg {
					t.Fatalf("Rebuild(%q, %d) of two is %q, %v", all, k, l, e)
				}
				one := make([]bool, n)
				one[odd] = true
				l, e := shards.Rebuild(all, one, k)
				if k == 1 && (len(l) != n || e != api.OK) || k > 1 && (len(l) != 0 || e != api.ErrLost) {
					t.Fatalf("Rebuild(%q, %d) of one is %q, %v", all, k, l, e)
				}
			}
		}
	}
}

// TestFits asks P7.3's second half and P7.6's first one: of shards that fit no byte may be another one.
func TestFits(t *testing.T) {
	r := rand.New(rand.NewSource(9))
	for _, x := range sizes() {
		k, m := x[0], x[1]
		if !fits(t, make([]string, k+m), k) {
			t.Errorf("%d and %d shards without bytes do not fit", k, m)
		}
		all := fitting(t, r, k, m, 3)
		if !fits(t, all, k) {
			t.Errorf("%d and %d: the data and their parity do not fit", k, m)
		}
		for which := range all {
			for at := range 3 {
				if is := fits(t, changed(all, which, at, uint8(1+r.Intn(255))), k); is != (m == 0) {
					t.Errorf("%d and %d: where number %d is another one at %d, Fits says %v", k, m, which, at, is)
				}
			}
		}
	}
	all := fitting(t, r, 3, 2, 2)
	for by := 1; by < 256; by++ {
		for which := range all {
			if fits(t, changed(all, which, 1, uint8(by)), 3) {
				t.Errorf("where number %d is another one by %d, they fit", which, by)
			}
		}
	}
}

// wrong are the shards without which all the others are as Rebuild of them tells.
func wrong(t *testing.T, all []string, k int) []int {
	t.Helper()
	found := []int{}
	for i := range all {
		l := rebuild(t, all, without(len(all), i), k)
		l[i] = all[i]
		if slices.Equal(l, all) {
			found = append(found, i)
		}
	}
	return found
}

// TestWrongOne asks P7.6's second half.
func TestWrongOne(t *testing.T) {
	r := rand.New(rand.NewSource(10))
	for _, x := range [][2]int{{1, 2}, {1, 3}, {2, 2}, {3, 5}, {4, 2}, {1, 63}, {32, 2}, {31, 33}, {32, 32}} {
		k, m := x[0], x[1]
		all := fitting(t, r, k, m, 3)
		places := r.Perm(k + m)
		for _, which := range append(places[:min(6, k+m)], 0, k-1, k, k+m-1) {
			l := changed(all, which, r.Intn(3), uint8(1+r.Intn(255)))
			if found := wrong(t, l, k); !slices.Equal(found, []int{which}) {
				t.Errorf("%d and %d: number %d is the wrong one, found were %v", k, m, which, found)
			}
		}
	}
}

// TestLinear asks P7.5's first half: parities laid over one another, and pieces.
func TestLinear(t *testing.T) {
	r := rand.New(rand.NewSource(11))
	for _, x := range sizes() {
		k, m, n := x[0], x[1], 20
		a, b := several(r, k, n), several(r, k, n)
		both := make([]string, k)
		for i := range both {
			both[i] = over(a[i], b[i])
		}
		one, other, sum := encode(t, a, m), encode(t, b, m), encode(t, both, m)
		for i := range sum {
			if sum[i] != over(one[i], other[i]) {
				t.Errorf("%d and %d: parity number %d is not both laid over one another", k, m, i)
			}
		}
		from := r.Intn(n)
		to := from + r.Intn(n-from+1)
		piece := make([]string, k)
		for i := range piece {
			piece[i] = a[i][from:to]
		}
		for i, s := range encode(t, piece, m) {
			if s != one[i][from:to] {
				t.Errorf("%d and %d: parity number %d of the piece from %d to %d is %q", k, m, i, from, to, s)
			}
		}
	}
}

// TestOneByte asks P7.5's second half: a byte changes every parity shard, at its place alone.
func TestOneByte(t *testing.T) {
	r := rand.New(rand.NewSource(12))
	for _, x := range sizes() {
		k, m := x[0], x[1]
		data := several(r, k, 4)
		before := encode(t, data, m)
		for which := range data {
			at := r.Intn(4)
			after := encode(t, changed(data, which, at, uint8(1+r.Intn(255))), m)
			for i := range after {
				for j := range 4 {
					if (after[i][j] != before[i][j]) != (j == at) {
						t.Fatalf("%d and %d: number %d changed at %d, parity number %d at %d is %d, was %d", k, m, which, at, i, j, after[i][j], before[i][j])
					}
				}
			}
		}
	}
}

// TestLong goes once through all with a text as long as a pack may be.
func TestLong(t *testing.T) {
	r := rand.New(rand.NewSource(13))
	s := some(r, api.MaxPack-1)
	data := cut(t, s, 8)
	all := append(data, encode(t, data, 3)...)
	for _, at := range []int{0, 1, 255, 256, 65535, 65536, len(data[0]) - 1} {
		piece := []string{}
		for _, shard := range all {
			piece = append(piece, shard[at:at+1])
		}
		if !slices.Equal(reckoned(t, piece[:8], 3), piece[8:]) {
			t.Errorf("the parity at %d is %q", at, piece[8:])
		}
	}
	there := without(11, 0, 7, 9)
	l := rebuild(t, spoilt(all, there), there, 8)
	if !slices.Equal(l, all) || whole(t, l[:8], len(s)) != s || !fits(t, l, 8) {
		t.Error("a text as long as a pack does not come back")
	}
	if fits(t, changed(l, 10, len(l[10])-1, 1), 8) {
		t.Error("with its last byte another one it fits")
	}
}

// lists are calls that answer one, of shards and of what says that they are there.
func lists(all []string, there []bool) map[string]func() ([]string, api.Errno) {
	return map[string]func() ([]string, api.Errno){
		"Cut":     func() ([]string, api.Errno) { return shards.Cut(all[0], 2) },
		"Encode":  func() ([]string, api.Errno) { return shards.Encode(all, 3) },
		"Rebuild": func() ([]string, api.Errno) { return shards.Rebuild(all, there, 2) },
	}
}

// TestApart asks R2 and R3: what is handed in stays, and what stands behind its end is not read; what is handed out is the caller's.
func TestApart(t *testing.T) {
	r := rand.New(rand.NewSource(14))
	behind := append(fitting(t, r, 2, 2, 6), "x", "yz", "")
	ahead := []bool{false, true, true, true, true, false, true}
	keptBehind, keptAhead := slices.Clone(behind), slices.Clone(ahead)
	all, there := behind[:4], ahead[:4]
	for name, call := range lists(all, there) {
		first, e := call()
		if e != api.OK || len(first) < 2 {
			t.Fatalf("%s: %q, %v", name, first, e)
		}
		want := slices.Clone(first)
		for i := range first[:cap(first)] {
			first[:cap(first)][i] = "written"
		}
		if second, e := call(); !slices.Equal(second, want) || e != api.OK {
			t.Errorf("%s: %q behind %q", name, second, want)
		}
	}
	if whole(t, all, 24) != strings.Join(keptBehind[:4], "") || !fits(t, all, 2) {
		t.Error("what stands behind the end is read")
	}
	if !slices.Equal(behind, keptBehind) || !slices.Equal(ahead, keptAhead) {
		t.Errorf("%q, %v are %q, %v by now", keptBehind, keptAhead, behind, ahead)
	}
}

// FuzzShards asks of any text and any numbers what holds of all.
func FuzzShards(f *testing.F) {
	f.Add("abcde", 2, 2, uint64(3))
	f.Add("", 1, 0, uint64(0))
	f.Add("some bytes more", 32, 32, uint64(math.MaxUint32))
	f.Add("x", 33, -1, uint64(1))
	f.Fuzz(func(t *testing.T, s string, k, m int, gone uint64) {
		data, e := shards.Cut(s, k)
		if may := k >= 1 && k <= 32; may != (e == api.OK) {
			t.Fatalf("Cut into %d: %v", k, e)
		}
		parity, e := shards.Encode(data, m)
		if may := len(data) > 0 && m >= 0 && m <= 64-k; may != (e == api.OK) {
			t.Fatalf("Encode of %d, %d: %v", k, m, e)
		}
		if e != api.OK {
			return
		}
		all := append(slices.Clone(data), parity...)
		there, left := make([]bool, len(all)), 0
		for i := range there {
			there[i] = gone>>i&1 == 0
			if there[i] {
				left++
			}
		}
		l, e := shards.Rebuild(spoilt(all, there), there, k)
		if left < k && (len(l) != 0 || e != api.ErrLost) || left >= k && (!slices.Equal(l, all) || e != api.OK) {
			t.Fatalf("Rebuild of %d and %d, %v: %q, %v", k, m, there, l, e)
		}
		if whole(t, data, len(s)) != s || !fits(t, all, k) || !slices.Equal(parity, reckoned(t, data, m)) {
			t.Fatalf("%q, %q: they do not go together", data, parity)
		}
	})
}

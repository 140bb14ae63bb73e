package find_test

import (
	"maps"
	"slices"
	"strconv"
	"strings"
	"testing"

	"muniment/api"
	"muniment/bloom"
	"muniment/disk"
	"muniment/find"
	"muniment/idx"
	"muniment/midx"
	"muniment/pack"
)

// What the tests lay on a disk.

// packed is a pack, and its index.
type packed struct {
	sum               api.Id
	label, data       string
	indexLabel, index string
}

func blob(s string) object { return object{Kind: api.KindBlob, Payload: s} }

func packOf(t *testing.T, l ...object) packed {
	t.Helper()
	s, e := pack.Build(l)
	x, e2 := idx.From(s)
	if e != api.OK || e2 != api.OK {
		t.Fatalf("a pack of %d: %v, %v", len(l), e, e2)
	}
	sum := sumOf(s)
	return packed{sum: sum, label: labelOfPack(sum), data: s, indexLabel: labelOfIndex(sum, x), index: x}
}

// packsOf are packs of these lists, the sums rising; each has an object of its own beside, so that any lists may be handed.
func packsOf(t *testing.T, lists ...[]object) []packed {
	t.Helper()
	var l []packed
	for i, x := range lists {
		l = append(l, packOf(t, append(slices.Clone(x), blob("of pack "+strconv.Itoa(i)))...))
	}
	slices.SortFunc(l, func(a, b packed) int { return order(a.sum, b.sum) })
	return l
}

// threePacks, the sums rising, all have the blob "all" first; the last two have the blob "two" behind it.
func threePacks(t *testing.T) []packed {
	t.Helper()
	all, two := blob("all"), blob("two")
	second, third := packOf(t, all, two, blob("x")), packOf(t, all, two, blob("y"))
	if order(second.sum, third.sum) > 0 {
		second, third = third, second
	}
	for i := range 1000 {
		if first := packOf(t, all, blob(strconv.Itoa(i))); order(first.sum, second.sum) < 0 {
			return []packed{first, second, third}
		}
	}
	t.Fatal("no pack of that order")
	return nil
}

func sumsOf(l ...packed) []api.Id {
	var sums []api.Id
	for _, p := range l {
		sums = append(sums, p.sum)
	}
	return sums
}

func packFiles(l ...packed) files {
	f := files{}
	for _, p := range l {
		f[p.label] = p.data
	}
	return f
}

func indexFiles(l ...packed) files {
	f := files{}
	for _, p := range l {
		f[p.indexLabel] = p.index
	}
	return f
}

func mergedBytes(t *testing.T, indexes ...string) string {
	t.Helper()
	s, e := midx.Merge(indexes)
	if e != api.OK {
		t.Fatalf("Merge of %d: %v", len(indexes), e)
	}
	return s
}

func mergedFiles(t *testing.T, l ...packed) files {
	t.Helper()
	var indexes []string
	for _, p := range l {
		indexes = append(indexes, p.index)
	}
	s := mergedBytes(t, indexes...)
	return files{labelOfMerged(s): s}
}

// indexAnyhow is an index of a pack with entries that it need not have.
func indexAnyhow(t *testing.T, sum api.Id, l ...entry) string {
	t.Helper()
	s, e := idx.Build(sum, l)
	if e != api.OK {
		t.Fatalf("an index of %d: %v", len(l), e)
	}
	return s
}

// filterFiles is a filter file of these packs, that has all names of these objects.
func filterFiles(packs []api.Id, l ...object) files {
	var ids []api.Id
	for _, o := range l {
		ids = append(ids, idOf(o))
	}
	s := packsAhead(packs) + filterBytes(ids)
	return files{labelOfFilter(s): s}
}

func together(l ...files) files {
	all := files{}
	for _, f := range l {
		maps.Copy(all, f)
	}
	return all
}

func labelsOf(l files) []string { return slices.Sorted(maps.Keys(l)) }

// laid is a disk with these files, all of them safe.
func laid(t *testing.T, l files) *disk.Disk {
	t.Helper()
	d, _ := disk.New(disk.MaxQuota)
	for _, label := range labelsOf(l) {
		if e, e2, e3 := d.Create(label), d.Append(label, l[label]), d.Sync(label); e != api.OK || e2 != api.OK || e3 != api.OK {
			t.Fatalf("%s is laid: %v, %v, %v", label, e, e2, e3)
		}
	}
	d.SyncDir()
	return d
}

func open(t *testing.T, d *disk.Disk) *find.Shelf {
	t.Helper()
	s, e := find.Open(d)
	if e != api.OK || s == nil {
		t.Fatalf("Open: %v", e)
	}
	return s
}

// changed is a text of which a byte is another one.
func changed(s string, at int) string { return s[:at] + string([]byte{s[at] ^ 0x20}) + s[at+1:] }

func checkTold(t *testing.T, what string, s *find.Shelf, want find.Told) {
	t.Helper()
	if s.Told() != want {
		t.Errorf("%s: Told %+v, want %+v", what, s.Told(), want)
	}
}

func checkGet(t *testing.T, what string, s *find.Shelf, id api.Id, want object, wantE api.Errno) {
	t.Helper()
	if o, e := s.Get(id); o != want || e != wantE {
		t.Errorf("%s: Get: %q, %v; want %q, %v", what, o, e, want, wantE)
	}
}

// checkWhere asks where an object is; of no pack, if it is to be nowhere.
func checkWhere(t *testing.T, what string, s *find.Shelf, id api.Id, in api.Id, want entry) {
	t.Helper()
	wantE := api.OK
	if in == (api.Id{}) {
		wantE = api.ErrNone
	}
	if sum, n, e := s.Where(id); sum != in || n != want || e != wantE {
		t.Errorf("%s: Where: %x, %+v, %v; want %x, %+v, %v", what, sum, n, e, in, want, wantE)
	}
	if s.Has(id) != (wantE == api.OK) {
		t.Errorf("%s: Has: %t", what, s.Has(id))
	}
}

func checkIn(t *testing.T, what string, s *find.Shelf, sum api.Id, want []entry, wantE api.Errno) {
	t.Helper()
	if l, e := s.In(sum); !slices.Equal(l, want) || e != wantE {
		t.Errorf("%s: In: %v, %v; want %v, %v", what, l, e, want, wantE)
	}
}

func checkKept(t *testing.T, what string, s *find.Shelf, written, removed int) {
	t.Helper()
	if w, r, e := s.Keep(); w != written || r != removed || e != api.OK {
		t.Errorf("%s: Keep: %d, %d, %v; want %d, %d", what, w, r, e, written, removed)
	}
}

func checkLabels(t *testing.T, what string, d *disk.Disk, want ...string) {
	t.Helper()
	slices.Sort(want)
	if l := labelsOf(filesOf(d)); !slices.Equal(l, want) {
		t.Errorf("%s: there are %q, want %q", what, l, want)
	}
}

// The chapter's examples but the first one.

func TestExamplesShelf(t *testing.T) {
	a, b := blob("a"), blob("b")
	p := packOf(t, a, b)
	d := laid(t, packFiles(p))
	s := open(t, d)
	checkTold(t, "one pack", s, find.Told{Packs: 1, Scanned: 1})
	checkKept(t, "at first", s, 2, 0)
	checkKept(t, "then", s, 0, 0)
	filter := filterFiles([]api.Id{p.sum}, a, b)
	checkLabels(t, "behind Keep", d, p.label, p.indexLabel, labelsOf(filter)[0])
	s = open(t, d)
	checkTold(t, "behind Keep", s, find.Told{Packs: 1, Indexed: 1, Filter: true})
	for _, o := range []object{a, b} {
		checkGet(t, "a blob", s, idOf(o), o, api.OK)
		if !s.Has(idOf(o)) {
			t.Errorf("Has of %q is false", o.Payload)
		}
	}
	other := idOf(blob("c"))
	checkGet(t, "another name", s, other, object{}, api.ErrNone)
	if s.Has(other) {
		t.Error("Has of another name")
	}
	d.Corrupt(p.label, 4+9, "X")
	checkGet(t, "overwritten", s, idOf(a), object{}, api.ErrCorrupt)
	checkGet(t, "the other one", s, idOf(b), b, api.OK)
}

// Which files are packs, by their labels alone.
func TestPackLabels(t *testing.T) {
	p := packOf(t, blob("a"))
	d := laid(t, packFiles(p))
	x := digits("x")
	for _, label := range []string{"pack-.pk", "pack-" + x, "pack-" + x[1:] + ".pk", "pack-" + x + "0.pk", "pack-" + x + ".pk.", "pack-" + x + ".p", "xpack-" + x + ".pk", "pack-" + x[1:] + "g.pk", x + ".pk", "tmp-0"} {
		d.Create(label)
		d.Append(label, p.data)
	}
	s := checkAsModel(t, d, []api.Id{idOf(blob("a"))})
	checkTold(t, "labels that are near a pack's", s, find.Told{Packs: 1, Scanned: 1})
	d.Create("pack-" + x + ".pk")
	s = checkAsModel(t, d, nil)
	checkTold(t, "an empty one", s, find.Told{Packs: 2, Scanned: 1, Salvaged: 1})
}

func TestEmptyDisk(t *testing.T) {
	d := laid(t, nil)
	s := checkAsModel(t, d, []api.Id{{}, idOf(blob("a"))})
	checkTold(t, "no pack", s, find.Told{})
	checkKept(t, "no pack", s, 0, 0)
	checkIn(t, "no pack", s, api.Id{}, nil, api.ErrNone)
}

// What is told of a pack without an index: by its bytes if it fits and is a pack, else what is left.
func TestPackBytes(t *testing.T) {
	p := packOf(t, blob("a"), blob("b"), blob("c"))
	record := func(o object) string { s, _ := pack.Build([]object{o}); return s[4 : 4+9+len(o.Payload)] }
	a, b := record(blob("a")), record(blob("bb"))
	other := packOf(t, blob("a"), blob("b"))
	for _, c := range []struct {
		what    string
		data    string
		isFit   bool // the label is that of the bytes, else p's
		scanned bool
		names   int
	}{
		{"whole", p.data, false, true, 3},
		{"of no object", packOf(t).data, true, true, 0},
		{"cut in the trailer", p.data[:len(p.data)-1], false, false, 3},
		{"without its trailer", p.data[:4+30], false, false, 3},
		{"cut in the last record", p.data[:4+29], false, false, 2},
		{"a byte more", p.data + "x", false, false, 3},
		{"a byte of the second record", changed(p.data, 4+10+9), false, false, 1},
		{"a byte of the mark", changed(p.data, 0), false, false, 0},
		{"empty", "", false, false, 0},
		{"another pack", other.data, false, false, 2},
		{"fits, and is no pack", "mpk1" + a + b, true, false, 2},
		{"fits, and has one twice", "mpk1" + a + b + a + b + "xy", true, false, 2},
		{"fits, and has no record", "x", true, false, 0},
	} {
		label := p.label
		if c.isFit {
			label = labelOfPack(sumOf(c.data))
		}
		d := laid(t, files{label: c.data})
		s := checkAsModel(t, d, []api.Id{idOf(blob("a")), idOf(blob("b")), idOf(blob("bb")), idOf(blob("c"))})
		want := find.Told{Packs: 1, Salvaged: 1}
		if c.scanned {
			want = find.Told{Packs: 1, Scanned: 1}
		}
		checkTold(t, c.what, s, want)
		if len(s.Ids()) != c.names {
			t.Errorf("%s: %d names, want %d", c.what, len(s.Ids()), c.names)
		}
	}
}

// Of several of one name what is left tells the first.
func TestLeftTellsFirst(t *testing.T) {
	s, _ := pack.Build([]object{blob("a"), blob("bb")})
	a, b := s[4:4+10], s[14:14+11]
	data := "mpk1" + b + a + b + a
	sum := sumOf(data)
	shelf := open(t, laid(t, files{labelOfPack(sum): data}))
	checkWhere(t, "twice", shelf, idOf(blob("a")), sum, entry{Id: idOf(blob("a")), Kind: 1, Off: 15, Size: 1})
	checkWhere(t, "twice", shelf, idOf(blob("bb")), sum, entry{Id: idOf(blob("bb")), Kind: 1, Off: 4, Size: 2})
}

// Each way in which an index file may serve or not.
func TestIndexServes(t *testing.T) {
	l := packsOf(t, []object{blob("a")}, []object{blob("b")})
	p, other := l[0], l[1]
	gone := packOf(t, blob("gone"))
	by := func(s string) string { return labelOfIndex(p.sum, s) }
	empty := indexAnyhow(t, p.sum)
	lying := indexAnyhow(t, p.sum, entry{Id: api.Id{7}, Kind: 5, Off: 9, Size: 3})
	cut, more := p.index[:len(p.index)-1], p.index+"x"
	for _, c := range []struct {
		what, label, data string
		serves            bool
	}{
		{"as From makes it", p.indexLabel, p.index, true},
		{"made by hand without entries", by(empty), empty, true},
		{"made by hand with others", by(lying), lying, true},
		{"overwritten", p.indexLabel, changed(p.index, 40), false},
		{"cut", p.indexLabel, cut, false},
		{"empty", p.indexLabel, "", false},
		{"of another own sum", labelOfIndex(p.sum, "x"), p.index, false},
		{"fits, and is cut", by(cut), cut, false},
		{"fits, and has a byte more", by(more), more, false},
		{"fits, and is empty", by(""), "", false},
		{"fits, and says another pack", by(other.index), other.index, false},
		{"another pack's label", labelOfIndex(other.sum, p.index), p.index, false},
		{"says a pack that is gone", gone.indexLabel, gone.index, false},
		{"another end", strings.TrimSuffix(p.indexLabel, ".ix") + ".iy", p.index, false},
		{"a digit less", "idx-" + p.indexLabel[5:], p.index, false},
		{"another front", "x" + p.indexLabel, p.index, false},
		{"a filter's front", "bloom-" + p.indexLabel[4:], p.index, false},
		{"a merged one's front", "m" + p.indexLabel, p.index, false},
		{"one sum alone", "idx-" + digits(p.index) + ".ix", p.index, false},
	} {
		d := laid(t, together(packFiles(p, other), files{c.label: c.data}))
		s := checkAsModel(t, d, []api.Id{idOf(blob("a")), idOf(blob("b")), {7}})
		want := find.Told{Packs: 2, Scanned: 2}
		if c.serves {
			want = find.Told{Packs: 2, Indexed: 1, Scanned: 1}
		}
		checkTold(t, c.what, s, want)
		_, isRemoved := keptWithout(t, d, s)[c.label]
		isAlone := c.what == "another front" || c.label == p.indexLabel
		if isRemoved != (!c.serves && !isAlone) {
			t.Errorf("%s: removed by Keep: %t", c.what, isRemoved)
		}
	}
}

// keptWithout does Keep, as the model has it, and answers the files that were there before and are gone.
func keptWithout(t *testing.T, d *disk.Disk, s *find.Shelf) files {
	t.Helper()
	gone := filesOf(d)
	checkKeepAsModel(t, d, s)
	for label := range filesOf(d) {
		delete(gone, label)
	}
	return gone
}

func checkKeepAsModel(t *testing.T, d *disk.Disk, s *find.Shelf) {
	t.Helper()
	want, written, removed := modelOf(filesOf(d)).kept()
	w, r, e := s.Keep()
	if w != written || r != removed || e != api.OK {
		t.Errorf("Keep: %d, %d, %v; want %d, %d", w, r, e, written, removed)
	}
	if !maps.Equal(filesOf(d), want) {
		t.Errorf("behind Keep there are %q, want %q (or their bytes are others)", labelsOf(filesOf(d)), labelsOf(want))
	}
}

// Of a pack's index files the first that serves is taken, in the order of their labels.
func TestFirstIndexServes(t *testing.T) {
	p := packOf(t, blob("a"))
	n := entry{Id: api.Id{7}, Kind: 1, Off: 4, Size: 1}
	for size := range 40 {
		n.Size = size
		lying := indexAnyhow(t, p.sum, n)
		want := n.Id
		if p.indexLabel < labelOfIndex(p.sum, lying) {
			want = idOf(blob("a"))
		}
		d := laid(t, together(packFiles(p), indexFiles(p), files{labelOfIndex(p.sum, lying): lying}))
		s := checkAsModel(t, d, []api.Id{n.Id, idOf(blob("a"))})
		if ids := s.Ids(); !slices.Equal(ids, []api.Id{want}) {
			t.Errorf("size %d: names %x, want %x", size, ids, want)
		}
		// Both serve, so that both stay.
		checkKept(t, "two indexes", s, 1, 0)
		d.Corrupt(labelsOf(indexFiles(p))[0], 50, "\xff\xff")
		checkAsModel(t, d, []api.Id{n.Id, idOf(blob("a"))})
		checkKeepAsModel(t, d, s)
	}
}

// Each way in which a merged file may serve or not.
func TestMergedServes(t *testing.T) {
	l := packsOf(t, []object{blob("a")}, []object{blob("b")}, []object{blob("c")})
	gone := packOf(t, blob("gone"))
	both := mergedBytes(t, l[0].index, l[1].index)
	one := mergedBytes(t, l[0].index)
	all := mergedBytes(t, l[0].index, l[1].index, l[2].index)
	none := mergedBytes(t)
	withGone := mergedBytes(t, l[0].index, l[1].index, l[2].index, gone.index)
	lying := mergedBytes(t, indexAnyhow(t, l[0].sum, entry{Id: api.Id{7}, Kind: 5, Off: 9, Size: 3}))
	cut := both[:len(both)-1]
	by := labelOfMerged
	for _, c := range []struct {
		what, label, data string
		merged            int
	}{
		{"of all", by(all), all, 3},
		{"of two", by(both), both, 2},
		{"of one", by(one), one, 1},
		{"of none", by(none), none, 0},
		{"made by hand", by(lying), lying, 1},
		{"says one that is gone", by(withGone), withGone, 0},
		{"overwritten", by(both), changed(both, 100), 0},
		{"cut", by(both), cut, 0},
		{"empty", by(both), "", 0},
		{"fits, and is cut", by(cut), cut, 0},
		{"fits, and is a pack's index", by(l[0].index), l[0].index, 0},
		{"another one's label", by(one), both, 0},
		{"another end", strings.TrimSuffix(by(all), ".mx") + ".my", all, 0},
		{"a digit less", "midx-" + by(all)[6:], all, 0},
		{"another front", "x" + by(all), all, 0},
		{"an index's front", by(all)[1:], all, 0},
		{"a filter's front", "bloom-" + by(all)[5:], all, 0},
	} {
		d := laid(t, together(packFiles(l...), files{c.label: c.data}))
		s := checkAsModel(t, d, []api.Id{idOf(blob("a")), idOf(blob("b")), idOf(blob("gone")), {7}})
		checkTold(t, c.what, s, find.Told{Packs: 3, Merged: c.merged, Scanned: 3 - c.merged})
		_, isRemoved := keptWithout(t, d, s)[c.label]
		if isRemoved != (c.merged < 3 && c.what != "another front") {
			t.Errorf("%s: removed by Keep: %t", c.what, isRemoved)
		}
	}
}

// A merged file is taken just if it says a pack that none ahead of it said.
func TestMergedTaken(t *testing.T) {
	l := packsOf(t, []object{blob("a")}, []object{blob("b")})
	a := idOf(blob("a"))
	both := mergedBytes(t, l[0].index, l[1].index)
	isTaken, isNot := 0, 0
	for size := range 40 {
		n := entry{Id: api.Id{7}, Kind: 1, Off: 4, Size: size}
		one := mergedBytes(t, indexAnyhow(t, l[0].sum, n))
		d := laid(t, together(packFiles(l...), files{labelOfMerged(both): both, labelOfMerged(one): one}))
		s := checkAsModel(t, d, []api.Id{a, n.Id})
		checkTold(t, "two merged files", s, find.Told{Packs: 2, Merged: 2})
		if labelOfMerged(one) < labelOfMerged(both) {
			checkWhere(t, "of one, ahead", s, n.Id, l[0].sum, n)
			isTaken++
		} else {
			checkWhere(t, "of one, behind", s, n.Id, api.Id{}, entry{})
			isNot++
		}
	}
	if isTaken == 0 || isNot == 0 {
		t.Errorf("%d taken, %d not", isTaken, isNot)
	}
}

// One that does not serve does not count as ahead of another.
func TestMergedNotServingAhead(t *testing.T) {
	l := packsOf(t, []object{blob("a")}, []object{blob("b")})
	one := mergedBytes(t, l[0].index)
	for i := range 40 {
		gone := packOf(t, blob("gone "+strconv.Itoa(i)))
		with := mergedBytes(t, l[0].index, l[1].index, gone.index)
		d := laid(t, together(packFiles(l...), files{labelOfMerged(one): one, labelOfMerged(with): with}))
		s := checkAsModel(t, d, nil)
		checkTold(t, "one that says a pack that is gone", s, find.Told{Packs: 2, Merged: 1, Scanned: 1})
	}
}

// Of several entries of one pack that of the merged file that was taken first counts.
func TestWhereFirstTaken(t *testing.T) {
	l := packsOf(t, nil, nil, nil)
	first := map[bool]int{}
	for size := range 40 {
		id := api.Id{7}
		n, o := entry{Id: id, Kind: 1, Off: 4, Size: size}, entry{Id: id, Kind: 2, Off: 5, Size: 6}
		one := mergedBytes(t, indexAnyhow(t, l[0].sum, n), l[1].index)
		two := mergedBytes(t, indexAnyhow(t, l[0].sum, o), l[2].index)
		s := checkAsModel(t, laid(t, together(packFiles(l...), files{labelOfMerged(one): one, labelOfMerged(two): two})), []api.Id{id})
		isOne := labelOfMerged(one) < labelOfMerged(two)
		first[isOne]++
		if isOne {
			checkWhere(t, "the first one", s, id, l[0].sum, n)
		} else {
			checkWhere(t, "the first one", s, id, l[0].sum, o)
		}
	}
	if len(first) != 2 {
		t.Errorf("%v", first)
	}
}

// Where tells the least pack, whether a merged file or the pack itself tells of it.
func TestWhereLeast(t *testing.T) {
	l := threePacks(t)
	id := idOf(blob("all"))
	n := entry{Id: id, Kind: 1, Off: 4, Size: 3}
	for _, merged := range [][]packed{nil, {l[0]}, {l[1]}, {l[2]}, {l[0], l[1]}, {l[0], l[2]}, {l[1], l[2]}, l} {
		f := packFiles(l...)
		if merged != nil {
			f = together(f, mergedFiles(t, merged...))
		}
		s := checkAsModel(t, laid(t, f), []api.Id{id, idOf(blob("two"))})
		checkTold(t, "three packs", s, find.Told{Packs: 3, Merged: len(merged), Scanned: 3 - len(merged)})
		checkWhere(t, "of three packs", s, id, l[0].sum, n)
		checkWhere(t, "of two packs", s, idOf(blob("two")), l[1].sum, entry{Id: idOf(blob("two")), Kind: 1, Off: 16, Size: 3})
	}
}

// Each way in which a filter file may serve or not.
func TestFilterServes(t *testing.T) {
	a, b, c := blob("a"), blob("b"), blob("c")
	l := packsOf(t, []object{a}, []object{b})
	sums := sumsOf(l...)
	gone := packOf(t, c)
	plain := packsAhead(sums) + filterBytes([]api.Id{idOf(a), idOf(b), idOf(blob("of pack 0")), idOf(blob("of pack 1"))})
	head, encoded := plain[:65], plain[65:]
	by := labelOfFilter
	swapped := "\x02" + string(sums[1][:]) + string(sums[0][:]) + encoded
	twice := "\x03" + string(sums[0][:]) + string(sums[0][:]) + string(sums[1][:]) + encoded
	few := packsAhead(sums[:1]) + encoded
	more := packsAhead(slices.SortedFunc(slices.Values(append(sumsOf(gone), sums...)), order)) + encoded
	others := packsAhead(slices.SortedFunc(slices.Values([]api.Id{sums[0], gone.sum}), order)) + encoded
	large, _ := bloom.New(128, 1)
	largeBytes, _ := large.Encode()
	for _, c := range []struct {
		what, label, data string
		serves            bool
	}{
		{"as Keep makes it", by(plain), plain, true},
		{"of another size", by(head + largeBytes), head + largeBytes, true},
		{"overwritten", by(plain), changed(plain, 75), false},
		{"cut", by(plain), plain[:len(plain)-1], false},
		{"empty", by(plain), "", false},
		{"fits, and is cut", by(plain[:len(plain)-1]), plain[:len(plain)-1], false},
		{"fits, and has a byte more", by(plain + "x"), plain + "x", false},
		{"fits, and has no filter", by(head), head, false},
		{"fits, and is cut in the packs", by(head[:64]), head[:64], false},
		{"fits, and is empty", by(""), "", false},
		{"the filter alone", by(encoded), encoded, false},
		{"a number in another form", by("\x82\x00" + plain[1:]), "\x82\x00" + plain[1:], false},
		{"packs that fall", by(swapped), swapped, false},
		{"a pack twice", by(twice), twice, false},
		{"fewer packs", by(few), few, false},
		{"more packs", by(more), more, false},
		{"other packs", by(others), others, false},
		{"no packs", by("\x00" + encoded), "\x00" + encoded, false},
		{"another one's label", by(few), plain, false},
		{"another end", strings.TrimSuffix(by(plain), ".bf") + ".bg", plain, false},
		{"a digit less", "bloom-" + by(plain)[7:], plain, false},
		{"another front", "x" + by(plain), plain, false},
		{"an index's front", "idx-" + by(plain)[6:], plain, false},
		{"a merged one's front", "midx-" + by(plain)[6:], plain, false},
	} {
		d := laid(t, together(packFiles(l...), files{c.label: c.data}))
		s := checkAsModel(t, d, []api.Id{idOf(a), idOf(b), idOf(blob("c")), {}})
		checkTold(t, c.what, s, find.Told{Packs: 2, Scanned: 2, Filter: c.serves})
		_, isRemoved := keptWithout(t, d, s)[c.label]
		isAlone := c.what == "another front" || c.label == by(plain)
		if isRemoved != (!c.serves && !isAlone) {
			t.Errorf("%s: removed by Keep: %t", c.what, isRemoved)
		}
	}
}

// What a filter has not is not there, though a pack has it; what it has is there just if a pack has it. Ids asks no filter.
func TestFilterIsAsked(t *testing.T) {
	a, b, c := blob("a"), blob("b"), blob("c")
	p := packOf(t, a, b)
	d := laid(t, together(packFiles(p), filterFiles([]api.Id{p.sum}, a, c)))
	s := checkAsModel(t, d, []api.Id{idOf(a), idOf(b), idOf(c)})
	checkGet(t, "had by both", s, idOf(a), a, api.OK)
	checkGet(t, "had by the pack alone", s, idOf(b), object{}, api.ErrNone)
	checkWhere(t, "had by the pack alone", s, idOf(b), api.Id{}, entry{})
	checkGet(t, "had by the filter alone", s, idOf(c), object{}, api.ErrNone)
	checkWhere(t, "had by the filter alone", s, idOf(c), api.Id{}, entry{})
	if len(s.Ids()) != 2 {
		t.Errorf("%d names", len(s.Ids()))
	}
}

// Of several filter files the first that serves is asked.
func TestFirstFilterServes(t *testing.T) {
	a, b := blob("a"), blob("b")
	p := packOf(t, a, b)
	first := map[bool]int{}
	for i := range 40 {
		one := filterFiles([]api.Id{p.sum}, a, blob("x"+strconv.Itoa(i)))
		two := filterFiles([]api.Id{p.sum}, b)
		isOne := labelsOf(one)[0] < labelsOf(two)[0]
		first[isOne]++
		d := laid(t, together(packFiles(p), one, two))
		s := checkAsModel(t, d, []api.Id{idOf(a), idOf(b)})
		if s.Has(idOf(a)) != isOne || s.Has(idOf(b)) == isOne {
			t.Errorf("the first filter has a: %t; Has: %t, %t", isOne, s.Has(idOf(a)), s.Has(idOf(b)))
		}
		checkKept(t, "two filters", s, 1, 0)
	}
	if len(first) != 2 {
		t.Errorf("%v", first)
	}
}

// A filter of no packs serves on a disk without one.
func TestFilterOfNoPack(t *testing.T) {
	d := laid(t, filterFiles(nil, blob("a")))
	s := checkAsModel(t, d, []api.Id{idOf(blob("a"))})
	checkTold(t, "no pack", s, find.Told{Filter: true})
	checkKept(t, "no pack", s, 0, 0)
}

// P16.3

// Get goes on to the next pack of which there is an entry.
func TestGetGoesOn(t *testing.T) {
	l := threePacks(t)
	o := blob("all")
	d := laid(t, packFiles(l...))
	s := open(t, d)
	checkGet(t, "all as they were", s, idOf(o), o, api.OK)
	d.Corrupt(l[0].label, 4+9, "X")
	checkGet(t, "the first one overwritten", s, idOf(o), o, api.OK)
	d.Remove(l[1].label)
	checkGet(t, "the second one gone", s, idOf(o), o, api.OK)
	checkGet(t, "of two packs", s, idOf(blob("two")), blob("two"), api.OK)
	d.Corrupt(l[2].label, 4, "\x00\x00\x00\x05")
	checkGet(t, "the third one overwritten", s, idOf(o), object{}, api.ErrCorrupt)
	checkGet(t, "another record of it", s, idOf(blob("two")), blob("two"), api.OK)
	checkGet(t, "another name", s, idOf(blob("none")), object{}, api.ErrNone)
}

// A merged file tells a name of one pack alone, and Get goes by what is told.
func TestGetOfMergedRow(t *testing.T) {
	l := threePacks(t)
	o := blob("all")
	d := laid(t, together(packFiles(l...), mergedFiles(t, l...)))
	s := open(t, d)
	checkGet(t, "as they were", s, idOf(o), o, api.OK)
	d.Corrupt(l[0].label, 4+9, "X")
	checkGet(t, "the one that the row says overwritten", s, idOf(o), object{}, api.ErrCorrupt)
	if b, e := find.Brute(d, idOf(o)); b != o || e != api.OK {
		t.Errorf("Brute: %q, %v", b, e)
	}
}

// What is read is asked for its name, wherever an index says that it stands.
func TestGetAsksName(t *testing.T) {
	a, b := blob("a"), blob("b")
	p := packOf(t, a, b)
	for _, c := range []struct {
		what      string
		off, size int
		is        bool
	}{
		{"where it stands", 4, 1, true},
		{"where another one stands", 14, 1, false},
		{"a byte behind", 5, 1, false},
		{"a byte more", 4, 2, false},
		{"a byte less", 4, 0, false},
		{"up to the end of the pack", 14, len(p.data) - 14 - 9, false},
		{"past the end", len(p.data), 0, false},
		{"far behind", api.MaxPack, api.MaxPayload, false},
	} {
		x := indexAnyhow(t, p.sum, entry{Id: idOf(a), Kind: 1, Off: c.off, Size: c.size})
		s := checkAsModel(t, laid(t, together(packFiles(p), files{labelOfIndex(p.sum, x): x})), []api.Id{idOf(a), idOf(b)})
		if c.is {
			checkGet(t, c.what, s, idOf(a), a, api.OK)
		} else {
			checkGet(t, c.what, s, idOf(a), object{}, api.ErrCorrupt)
		}
	}
	// The kind that an index says has no say: the name tells the kind.
	x := indexAnyhow(t, p.sum, entry{Id: idOf(a), Kind: 5, Off: 4, Size: 1})
	s := open(t, laid(t, together(packFiles(p), files{labelOfIndex(p.sum, x): x})))
	checkGet(t, "another kind", s, idOf(a), a, api.OK)
}

func TestGetOfEachKind(t *testing.T) {
	var l []object
	for kind := uint8(1); kind <= 5; kind++ {
		l = append(l, object{Kind: kind, Payload: "same"}, object{Kind: kind, Payload: ""}, object{Kind: kind, Payload: strings.Repeat("x", 1000*int(kind))})
	}
	d := laid(t, packFiles(packOf(t, l[:8]...), packOf(t, l[5:]...)))
	s := open(t, d)
	for _, o := range l {
		checkGet(t, "by its bytes", s, idOf(o), o, api.OK)
		if b, e := find.Brute(d, idOf(o)); b != o || e != api.OK {
			t.Errorf("Brute: %v", e)
		}
	}
	s.Keep()
	s = open(t, d)
	for _, o := range l {
		checkGet(t, "by a merged file", s, idOf(o), o, api.OK)
	}
}

// Brute tells what stands behind a damaged pack's first records, and asks no index.
func TestBrute(t *testing.T) {
	l := threePacks(t)
	o := blob("all")
	lying := indexAnyhow(t, l[0].sum)
	d := laid(t, together(packFiles(l...), files{labelOfIndex(l[0].sum, lying): lying}, filterFiles(sumsOf(l...))))
	names := []api.Id{idOf(o), idOf(blob("two")), idOf(blob("x")), {}}
	for _, id := range names[:2] {
		if b, e := find.Brute(d, id); e != api.OK || idOf(b) != id {
			t.Errorf("Brute: %q, %v", b, e)
		}
	}
	for _, p := range l {
		d.Corrupt(p.label, 4+9, "X")
		checkAsModel(t, d, names)
	}
	for _, id := range names {
		if b, e := find.Brute(d, id); b != (object{}) || e != api.ErrNone {
			t.Errorf("Brute: %q, %v", b, e)
		}
	}
}

// Get reads the record alone, of one pack after the other; Brute reads all bytes, pack by pack from the least on, up to the first that has the name.
func TestCallsOfGetAndBrute(t *testing.T) {
	l := threePacks(t)
	own := func(p packed) api.Id { entries, _ := pack.Scan(p.data); return entries[len(entries)-1].Id }
	d := laid(t, packFiles(l...))
	s := open(t, d)
	calls := func(do func()) int {
		before := d.Calls()
		do()
		return d.Calls() - before
	}
	for i, p := range l {
		id := own(p)
		if n := calls(func() { s.Get(id) }); n != 1 {
			t.Errorf("Get of pack %d's: %d calls", i, n)
		}
		if n := calls(func() { find.Brute(d, id) }); n != 1+2*(i+1) {
			t.Errorf("Brute of pack %d's: %d calls", i, n)
		}
	}
	for i, p := range l {
		if n := calls(func() { s.Get(idOf(blob("all"))) }); n != i+1 {
			t.Errorf("Get, %d packs overwritten: %d calls", i, n)
		}
		d.Corrupt(p.label, 4+9, "X")
	}
	if n := calls(func() { s.Get(idOf(blob("none"))) }); n != 0 {
		t.Errorf("Get of another name: %d calls", n)
	}
}

// In asks a pack's index files and bytes as they are then, whatever merged files there are.
func TestIn(t *testing.T) {
	a, b := blob("a"), blob("b")
	p := packOf(t, a, b, blob("c"), blob("d"), blob("e"))
	want, _ := pack.Scan(p.data)
	if slices.IsSortedFunc(want, func(a, b entry) int { return order(a.Id, b.Id) }) {
		t.Error("the names rise in the pack")
	}
	slices.SortFunc(want, func(a, b entry) int { return order(a.Id, b.Id) })
	n := entry{Id: api.Id{7}, Kind: 1, Off: 4, Size: 1}
	lying := indexAnyhow(t, p.sum, n)
	merged := mergedBytes(t, lying)
	d := laid(t, together(packFiles(p), files{labelOfMerged(merged): merged}))
	s := open(t, d)
	checkTold(t, "merged", s, find.Told{Packs: 1, Merged: 1})
	checkIn(t, "by its bytes", s, p.sum, want, api.OK)
	find.Write(d, labelOfIndex(p.sum, lying), lying)
	checkIn(t, "by an index that came since", s, p.sum, []entry{n}, api.OK)
	d.Corrupt(labelOfIndex(p.sum, lying), 4, "x")
	checkIn(t, "by its bytes again", s, p.sum, want, api.OK)
	d.Corrupt(p.label, 4+9, "X")
	checkIn(t, "what is left", s, p.sum, nil, api.OK)
	checkIn(t, "another pack", s, api.Id{1}, nil, api.ErrNone)
	find.Write(d, p.indexLabel, p.index)
	checkIn(t, "by its index", s, p.sum, want, api.OK)
	d.Remove(p.label)
	checkIn(t, "a pack that is gone since, with its index left", s, p.sum, nil, api.ErrNone)
	d.Remove(p.indexLabel)
	checkIn(t, "a pack that is gone since", s, p.sum, nil, api.ErrNone)
}

// A shelf tells what was there as it was opened, but reads the records from the disk as it is.
func TestShelfIsAsOpened(t *testing.T) {
	a, b := blob("a"), blob("b")
	p, q := packOf(t, a), packOf(t, b)
	d := laid(t, packFiles(p))
	s := open(t, d)
	find.Write(d, q.label, q.data)
	if s.Has(idOf(b)) || len(s.Packs()) != 1 {
		t.Error("a pack that came since is there")
	}
	d.Remove(p.label)
	checkWhere(t, "a pack that is gone", s, idOf(a), p.sum, entry{Id: idOf(a), Kind: 1, Off: 4, Size: 1})
	checkGet(t, "a pack that is gone", s, idOf(a), object{}, api.ErrCorrupt)
	find.Write(d, p.label, p.data)
	checkGet(t, "a pack that is there again", s, idOf(a), a, api.OK)
	told := s.Told()
	s.Keep()
	checkTold(t, "behind Keep", s, told)
}

// The errors, in their order.

func TestNilShelf(t *testing.T) {
	var s *find.Shelf
	id := idOf(blob("a"))
	if s.Told() != (find.Told{}) || len(s.Packs()) != 0 || len(s.Ids()) != 0 || s.Has(id) {
		t.Error("a nil shelf tells something")
	}
	if sum, n, e := s.Where(id); sum != (api.Id{}) || n != (entry{}) || e != api.ErrNil {
		t.Errorf("Where: %v", e)
	}
	checkIn(t, "nil", s, api.Id{}, nil, api.ErrNil)
	checkGet(t, "nil", s, id, object{}, api.ErrNil)
	if w, r, e := s.Keep(); w != 0 || r != 0 || e != api.ErrNil {
		t.Errorf("Keep: %d, %d, %v", w, r, e)
	}
	if s, e := find.Open(nil); s != nil || e != api.ErrNil {
		t.Errorf("Open: %v", e)
	}
	if o, e := find.Brute(nil, id); o != (object{}) || e != api.ErrNil {
		t.Errorf("Brute: %v", e)
	}
}

// Of a shelf that Open has not made nothing is promised, but that nothing panics.
func TestShelfMadeOtherwise(t *testing.T) {
	s := &find.Shelf{}
	id := idOf(blob("a"))
	s.Told()
	s.Packs()
	s.Ids()
	s.Has(id)
	s.Where(id)
	s.In(id)
	s.Get(id)
	s.Keep()
}

func TestDown(t *testing.T) {
	a := blob("a")
	p := packOf(t, a)
	d := laid(t, packFiles(p))
	s := open(t, d)
	d.Pull(disk.Crash{})
	checkIn(t, "down, no such pack", s, api.Id{}, nil, api.ErrNone)
	checkIn(t, "down", s, p.sum, nil, api.ErrDown)
	checkGet(t, "down", s, idOf(a), object{}, api.ErrDown)
	checkGet(t, "down, no such name", s, idOf(blob("x")), object{}, api.ErrDown)
	checkWhere(t, "down", s, idOf(a), p.sum, entry{Id: idOf(a), Kind: 1, Off: 4, Size: 1})
	checkWhere(t, "down, no such name", s, idOf(blob("x")), api.Id{}, entry{})
	if w, r, e := s.Keep(); w != 0 || r != 0 || e != api.ErrDown {
		t.Errorf("Keep: %d, %d, %v", w, r, e)
	}
	if s, e := find.Open(d); s != nil || e != api.ErrDown {
		t.Errorf("Open: %v", e)
	}
	for _, id := range []api.Id{idOf(a), {}} {
		if o, e := find.Brute(d, id); o != (object{}) || e != api.ErrDown {
			t.Errorf("Brute: %v", e)
		}
	}
	d.Restart()
	checkGet(t, "up again", s, idOf(a), a, api.OK)
}

// A disk that goes down in the midst of a call that reads.
func TestGoesDownReading(t *testing.T) {
	l := threePacks(t)
	id := idOf(blob("all"))
	lying := indexAnyhow(t, l[1].sum, entry{Id: api.Id{7}, Kind: 1, Off: 4, Size: 1})
	d := laid(t, together(packFiles(l...), mergedFiles(t, l[0]), files{labelOfIndex(l[1].sum, lying): changed(lying, 60)}, filterFiles(nil)))
	s := open(t, d)
	d.Corrupt(l[0].label, 4+9, "X")
	for what, do := range map[string]func() (isZero bool, e api.Errno){
		"Open":  func() (bool, api.Errno) { s, e := find.Open(d); return s == nil, e },
		"In":    func() (bool, api.Errno) { l, e := s.In(l[1].sum); return len(l) == 0, e },
		"Get":   func() (bool, api.Errno) { o, e := s.Get(id); return o == object{}, e },
		"Brute": func() (bool, api.Errno) { o, e := find.Brute(d, api.Id{}); return o == object{}, e },
	} {
		calls := 0
		for at := 1; ; at++ {
			d.Plan(at, disk.Crash{Dir: 1 << 20, Keep: []int{1 << 20}})
			isZero, e := do()
			if !d.Down() {
				break
			}
			if !isZero || e != api.ErrDown {
				t.Errorf("%s, down at call %d: %t, %v", what, at, isZero, e)
			}
			d.Restart()
			calls++
		}
		if calls < 2 {
			t.Errorf("%s makes %d calls", what, calls)
		}
		d.Plan(0, disk.Crash{})
	}
}

// R3: what is handed out is new memory.
func TestAnswersAreNew(t *testing.T) {
	l := threePacks(t)
	d := laid(t, together(packFiles(l...), mergedFiles(t, l[0]), indexFiles(l[1])))
	s := open(t, d)
	ids, packs := slices.Clone(s.Ids()), slices.Clone(s.Packs())
	var in [3][]entry
	for i, p := range l {
		in[i], _ = s.In(p.sum)
		in[i] = slices.Clone(in[i])
	}
	for range 2 {
		spoil(s.Ids())
		spoil(s.Packs())
		for _, p := range l {
			answer, _ := s.In(p.sum)
			spoil(answer)
		}
	}
	if !slices.Equal(s.Ids(), ids) || !slices.Equal(s.Packs(), packs) {
		t.Error("what was written into an answer is told again")
	}
	for i, p := range l {
		checkIn(t, "written over", s, p.sum, in[i], api.OK)
	}
	checkAsModel(t, d, ids)
}

// spoil writes over a list and the room behind it.
func spoil[T any](l []T) {
	l = l[:cap(l)]
	clear(l)
}

package find_test

import (
	"math/rand"
	"slices"
	"strconv"
	"strings"
	"testing"

	"muniment/api"
	"muniment/disk"
	"muniment/find"
	"muniment/idx"
	"muniment/pack"
)

// pool are the objects of which packs are made anyhow.
func pool() []object {
	var l []object
	for i := range 14 {
		l = append(l, object{Kind: uint8(1 + i%5), Payload: strings.Repeat("p", i*3) + strconv.Itoa(i)})
	}
	return l
}

// names are those of the pool, and some that no pack has.
func names() []api.Id {
	l := []api.Id{{}, {7}, api.Id([]byte(strings.Repeat("\xff", 32)))}
	for _, o := range pool() {
		l = append(l, idOf(o), idOf(object{Kind: o.Kind, Payload: o.Payload + "x"}))
	}
	return l
}

func somePack(t *testing.T, r *rand.Rand) packed {
	l := pool()
	r.Shuffle(len(l), func(i, j int) { l[i], l[j] = l[j], l[i] })
	return packOf(t, l[:r.Intn(6)]...)
}

// somePacks are up to n, no two the same.
func somePacks(t *testing.T, r *rand.Rand, n int) []packed {
	var l []packed
	for range r.Intn(n + 1) {
		p := somePack(t, r)
		if !slices.ContainsFunc(l, func(q packed) bool { return q.sum == p.sum }) {
			l = append(l, p)
		}
	}
	slices.SortFunc(l, func(a, b packed) int { return order(a.sum, b.sum) })
	return l
}

func someOf(r *rand.Rand, l []packed) []packed {
	var some []packed
	for _, p := range l {
		if r.Intn(2) == 0 {
			some = append(some, p)
		}
	}
	return some
}

// damaged is a text with something overwritten, cut off or put behind it.
func damaged(r *rand.Rand, s string) string {
	switch r.Intn(4) {
	case 0:
		return s[:r.Intn(len(s)+1)]
	case 1:
		return s + "x"
	}
	b := []byte(s)
	for range 1 + r.Intn(3) {
		if len(b) > 0 {
			b[r.Intn(len(b))] = byte(r.Intn(256))
		}
	}
	return string(b)
}

// lyingIndex is one of a pack whose entries are anyhow.
func lyingIndex(t *testing.T, r *rand.Rand, sum api.Id) string {
	var l []entry
	for i, id := range names() {
		if r.Intn(4) == 0 {
			l = append(l, entry{Id: id, Kind: uint8(1 + i%5), Off: 4 + r.Intn(90), Size: r.Intn(40)})
		}
	}
	return indexAnyhow(t, sum, l...)
}

// someIndex is an index file of a pack, which may be damaged or lie.
func someIndex(t *testing.T, r *rand.Rand, p packed) files {
	switch r.Intn(6) {
	case 0:
		return files{p.indexLabel: damaged(r, p.index)}
	case 1:
		x := lyingIndex(t, r, p.sum)
		return files{labelOfIndex(p.sum, x): x}
	case 2:
		return files{labelOfIndex(p.sum, "x"): p.index}
	}
	return indexFiles(p)
}

// someMerged is a merged file of some packs, which may be damaged or lie.
func someMerged(t *testing.T, r *rand.Rand, l []packed) files {
	if r.Intn(3) == 0 {
		l = someOf(r, l)
	}
	var indexes []string
	for _, p := range l {
		x := p.index
		if r.Intn(6) == 0 {
			x = lyingIndex(t, r, p.sum)
		}
		indexes = append(indexes, x)
	}
	s := mergedBytes(t, indexes...)
	if r.Intn(5) == 0 {
		return files{labelOfMerged(s): damaged(r, s)}
	}
	return files{labelOfMerged(s): s}
}

// someFilter is a filter file of some packs, which may be damaged or lack names.
func someFilter(r *rand.Rand, l []packed) files {
	if r.Intn(4) == 0 {
		l = someOf(r, l)
	}
	has := pool()
	if r.Intn(2) == 0 {
		has = has[r.Intn(4):]
	}
	f := filterFiles(sumsOf(l...), has...)
	if r.Intn(6) == 0 {
		label := labelsOf(f)[0]
		f[label] = damaged(r, f[label])
	}
	return f
}

// someFiles are files of packs that are there, damaged or gone, and of what makes them quicker.
func someFiles(t *testing.T, r *rand.Rand) files {
	l := somePacks(t, r, 5)
	f := files{}
	var there []packed
	for _, p := range l {
		switch r.Intn(9) {
		case 0:
			f[p.label] = damaged(r, p.data)
		case 1:
			continue
		case 2:
			// Its records twice, and no trailer, under the label of just these bytes.
			records := p.data[4 : len(p.data)-10]
			p.data = "mpk1" + records + records
			p.sum = sumOf(p.data)
			p.label = labelOfPack(p.sum)
			p.index = indexAnyhow(t, p.sum, firstOfEachName(pack.Salvage(p.data))...)
			p.indexLabel = labelOfIndex(p.sum, p.index)
			f[p.label] = p.data
		default:
			f[p.label] = p.data
		}
		there = append(there, p)
	}
	slices.SortFunc(there, func(a, b packed) int { return order(a.sum, b.sum) })
	for _, p := range l {
		for range r.Intn(3) {
			f = together(f, someIndex(t, r, p))
		}
	}
	for range r.Intn(3) {
		f = together(f, someMerged(t, r, there), someMerged(t, r, l))
	}
	for range r.Intn(3) {
		f = together(f, someFilter(r, there))
	}
	for _, label := range []string{"idx-", "midx-x", "bloom-1", "tmp-3", "refs.rf", "stat-1"} {
		if r.Intn(4) == 0 {
			f[label] = damaged(r, "some bytes")
		}
	}
	return f
}

// Whatever files there are: all is told as the chapter's words have it, before and behind Keep, and Keep leaves what it is to leave.
func TestAnyFiles(t *testing.T) {
	r := rand.New(rand.NewSource(1))
	seen := map[string]int{}
	for range 1200 {
		d := laid(t, someFiles(t, r))
		s := checkAsModel(t, d, names())
		countSeen(seen, filesOf(d), s)
		if r.Intn(2) == 0 {
			p := somePack(t, r)
			find.Write(d, p.label, p.data)
		}
		checkKeepAsModel(t, d, s)
		s = checkAsModel(t, d, names())
		checkBehindKeep(t, d, s)
		if t.Failed() {
			t.Fatal("of these files")
		}
	}
	for _, what := range []string{"merged", "indexed", "scanned", "salvaged", "filter", "several merged", "several rows", "corrupt", "had, but filtered", "all ways"} {
		if seen[what] < 8 {
			t.Errorf("%s: seen %d times", what, seen[what])
		}
	}
}

// countSeen counts what there is, so that it is known that the files were of all sorts.
func countSeen(seen map[string]int, l files, s *find.Shelf) {
	m := modelOf(l)
	isSeen := map[string]bool{
		"merged": m.told.Merged > 0, "indexed": m.told.Indexed > 0, "scanned": m.told.Scanned > 0, "salvaged": m.told.Salvaged > 0,
		"filter": m.told.Filter, "several merged": len(m.taken) > 1,
		"all ways": m.told.Merged > 0 && m.told.Indexed > 0 && m.told.Scanned > 0,
	}
	for _, id := range m.ids() {
		_, e := s.Get(id)
		isSeen["corrupt"] = isSeen["corrupt"] || e == api.ErrCorrupt
		isSeen["had, but filtered"] = isSeen["had, but filtered"] || !s.Has(id)
		isSeen["several rows"] = isSeen["several rows"] || len(m.rows(id)) > 1
	}
	for what, is := range isSeen {
		if is {
			seen[what]++
		}
	}
}

// checkBehindKeep asks what P16.6 promises: each pack that fits is told by a merged file or its own index, a filter serves, if each pack is told so, and Keep has nothing left to do.
func checkBehindKeep(t *testing.T, d *disk.Disk, s *find.Shelf) {
	t.Helper()
	m := modelOf(filesOf(d))
	told := s.Told()
	unfit := 0
	for _, sum := range m.packs {
		data := m.files[labelOfPack(sum)]
		if _, e := pack.Scan(data); e != api.OK || sumOf(data) != sum {
			unfit++
		}
	}
	if told.Scanned != 0 || told.Salvaged > unfit {
		t.Errorf("behind Keep: %+v, and %d packs do not fit", told, unfit)
	}
	if told.Packs > 0 && unfit == 0 && !told.Filter {
		t.Errorf("behind Keep no filter serves: %+v", told)
	}
	checkKept(t, "once more", s, 0, 0)
}

// honestFiles are files of packs that fit, and of what Keep made of them, or others since; any of it may be overwritten or gone.
func honestFiles(t *testing.T, r *rand.Rand) files {
	d := laid(t, nil)
	for range 1 + r.Intn(4) {
		for _, p := range somePacks(t, r, 3) {
			find.Write(d, p.label, p.data)
			if r.Intn(3) == 0 {
				find.Write(d, p.indexLabel, p.index)
			}
		}
		before := filesOf(d)
		s, _ := find.Open(d)
		s.Keep()
		for label, data := range before {
			// What Keep has removed may be left, too.
			if _, isThere := filesOf(d)[label]; !isThere && r.Intn(2) == 0 {
				find.Write(d, label, data)
			}
		}
		for _, label := range labelsOf(filesOf(d)) {
			if strings.HasPrefix(label, "pack-") && r.Intn(4) == 0 {
				d.Remove(label)
			}
		}
	}
	for _, label := range labelsOf(filesOf(d)) {
		n, _ := d.Size(label)
		switch r.Intn(4) {
		case 0:
			if !strings.HasPrefix(label, "pack-") && n > 0 {
				d.Corrupt(label, r.Intn(n), string([]byte{byte(r.Intn(256))}))
			}
		case 1:
			if r.Intn(2) == 0 {
				d.Remove(label)
			}
		}
	}
	return filesOf(d)
}

// P16.5: whatever lacks, is overwritten or left, all is told as Brute tells it, of the packs that are there.
func TestWhateverLacks(t *testing.T) {
	r := rand.New(rand.NewSource(2))
	ways := find.Told{}
	for range 400 {
		d := laid(t, honestFiles(t, r))
		s := checkAsModel(t, d, nil)
		checkAsBrute(t, d, s, names())
		told := s.Told()
		ways.Merged += told.Merged
		ways.Indexed += told.Indexed
		ways.Scanned += told.Scanned
		ways.Filter = ways.Filter || told.Filter
		checkKeepAsModel(t, d, s)
		s = open(t, d)
		checkAsBrute(t, d, s, names())
		checkBehindKeep(t, d, s)
		if t.Failed() {
			t.Fatal("of these files")
		}
	}
	if ways.Merged < 100 || ways.Indexed < 100 || ways.Scanned < 100 || !ways.Filter {
		t.Errorf("packs were told by %+v", ways)
	}
}

// What serves is told by names of files alone: each byte of an index, a merged file and a filter, turned, has the pack told otherwise.
func TestEachByteOverwritten(t *testing.T) {
	l := packsOf(t, []object{blob("a")}, []object{blob("b")})
	all := allFiles(t, l...)
	ids := []api.Id{idOf(blob("a")), idOf(blob("b")), idOf(blob("c"))}
	for label, data := range all {
		if strings.HasPrefix(label, "pack-") {
			continue
		}
		for at := 0; at < len(data); at += 1 + len(data)/150 {
			d := laid(t, all)
			d.Corrupt(label, at, changed(data, at)[at:at+1])
			s := open(t, d)
			told := s.Told()
			isOther := told != find.Told{Packs: 2, Merged: 2, Filter: true}
			if isOther != !strings.HasPrefix(label, "idx-") {
				t.Errorf("%q overwritten at %d: %+v", label, at, told)
			}
			checkAsBrute(t, d, s, ids)
		}
	}
}

// An index of another pack's entries serves as what its label says.
func TestIndexesChangedAbout(t *testing.T) {
	l := packsOf(t, []object{blob("a")}, []object{blob("bb")})
	var lying files
	for i, p := range l {
		x, _ := idx.Open(l[1-i].index)
		s := indexAnyhow(t, p.sum, x.All()...)
		lying = together(lying, files{labelOfIndex(p.sum, s): s})
	}
	d := laid(t, together(packFiles(l...), lying))
	s := checkAsModel(t, d, []api.Id{idOf(blob("a")), idOf(blob("bb"))})
	checkTold(t, "changed about", s, find.Told{Packs: 2, Indexed: 2})
	for _, o := range []object{blob("a"), blob("bb")} {
		checkGet(t, "changed about", s, idOf(o), object{}, api.ErrCorrupt)
	}
}

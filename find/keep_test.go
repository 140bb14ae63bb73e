package find_test

import (
	"encoding/binary"
	"maps"
	"slices"
	"strconv"
	"strings"
	"testing"

	"muniment/api"
	"muniment/bloom"
	"muniment/disk"
	"muniment/find"
	"muniment/idx"
	"muniment/midx"
	"muniment/pack"
)

// allFiles are all that Keep leaves of packs, as it makes them.
func allFiles(t *testing.T, l ...packed) files {
	t.Helper()
	f := together(packFiles(l...), indexFiles(l...))
	if len(l) > 1 {
		f = together(f, mergedFiles(t, l...))
	}
	var ids []api.Id
	for _, p := range l {
		entries, _ := pack.Scan(p.data)
		for _, n := range entries {
			ids = append(ids, n.Id)
		}
	}
	slices.SortFunc(ids, order)
	s := packsAhead(sumsOf(l...)) + filterBytes(slices.Compact(ids))
	return together(f, files{labelOfFilter(s): s})
}

func checkFiles(t *testing.T, what string, d *disk.Disk, want files) {
	t.Helper()
	if !maps.Equal(filesOf(d), want) {
		t.Errorf("%s: there are %q, want %q (or their bytes are others)", what, labelsOf(filesOf(d)), labelsOf(want))
	}
}

// P16.4

func TestKeepWritesWhatLacks(t *testing.T) {
	l := threePacks(t)
	for n := range 4 {
		l := l[:n]
		want := files{}
		if n > 0 {
			want = allFiles(t, l...)
		}
		d := laid(t, packFiles(l...))
		checkKept(t, "packs alone", open(t, d), len(want)-n, 0)
		checkFiles(t, "packs alone", d, want)
		checkKept(t, "all there", open(t, d), 0, 0)
		for label := range want {
			if strings.HasPrefix(label, "pack-") {
				continue
			}
			d := laid(t, want)
			d.Remove(label)
			checkKept(t, "one lacks", open(t, d), 1, 0)
			checkFiles(t, "one lacks", d, want)
			d.Corrupt(label, 3, "x")
			checkKept(t, "one overwritten", open(t, d), 1, 0)
			checkFiles(t, "one overwritten", d, want)
		}
	}
}

// Where a filter is written anew under the label of one that is left, that one is not removed.
func TestKeepWritesOver(t *testing.T) {
	l := threePacks(t)
	d := laid(t, allFiles(t, l...))
	for label, data := range filesOf(d) {
		if !strings.HasPrefix(label, "pack-") {
			d.Corrupt(label, 0, strings.Repeat("?", len(data)))
		}
	}
	s := checkAsModel(t, d, nil)
	checkTold(t, "all overwritten", s, find.Told{Packs: 3, Scanned: 3})
	checkKept(t, "all overwritten", s, 5, 0)
	checkFiles(t, "all overwritten", d, allFiles(t, l...))
}

// What is left of packs that are gone is removed; files of others stay.
func TestKeepRemovesWhatDoesNotServe(t *testing.T) {
	l := threePacks(t)
	d := laid(t, allFiles(t, l...))
	others := files{"refs.rf": "a", "stat-x": "b", "par-x": "c", "tmp-7": "d", "idx": "e", "idx.": "f", "xidx-": "g", "midx": "h", "bloom": "i", "pack-": "j", "bloom.-": "k"}
	for label, data := range others {
		find.Write(d, label, data)
	}
	for _, label := range []string{"idx-", "midx-", "bloom-", "idx-x", "idx-midx-"} {
		d.Create(label)
	}
	d.Remove(l[1].label)
	left := []packed{l[0], l[2]}
	s := open(t, d)
	// An index, a merged file and a filter are of no use any more, and five have no label of theirs; a merged file and a filter are made.
	checkKept(t, "one pack gone", s, 2, 8)
	checkFiles(t, "one pack gone", d, together(allFiles(t, left...), others))
	d.Remove(l[0].label)
	checkKept(t, "two packs gone", s, 1, 3)
	checkFiles(t, "two packs gone", d, together(allFiles(t, l[2]), others))
	d.Remove(l[2].label)
	checkKept(t, "all packs gone", s, 0, 2)
	checkFiles(t, "all packs gone", d, others)
	checkKept(t, "all packs gone", s, 0, 0)
}

// One pack gets no merged file; but one that says it all serves, and stays.
func TestKeepMergedOfOnePack(t *testing.T) {
	p := packOf(t, blob("a"))
	d := laid(t, together(packFiles(p), mergedFiles(t, p)))
	s := open(t, d)
	checkTold(t, "one pack merged", s, find.Told{Packs: 1, Merged: 1})
	checkKept(t, "one pack merged", s, 2, 0)
	checkFiles(t, "one pack merged", d, together(allFiles(t, p), mergedFiles(t, p)))
	none := mergedBytes(t)
	d = laid(t, files{labelOfMerged(none): none})
	checkKept(t, "no pack, none merged", open(t, d), 0, 0)
	find.Write(d, p.label, p.data)
	checkKept(t, "none merged, a pack since", open(t, d), 2, 1)
	checkFiles(t, "none merged, a pack since", d, allFiles(t, p))
}

// A merged file of some packs serves, but goes behind one of all.
func TestKeepMergedOfSome(t *testing.T) {
	l := threePacks(t)
	d := laid(t, together(packFiles(l...), indexFiles(l...), mergedFiles(t, l[:2]...), mergedFiles(t, l[1:]...)))
	s := open(t, d)
	checkTold(t, "of some", s, find.Told{Packs: 3, Merged: 3})
	checkKept(t, "of some", s, 2, 2)
	checkFiles(t, "of some", d, allFiles(t, l...))
}

// The merged file is made of each pack's first index that serves, even where that says other things than the pack.
func TestKeepMergesFirstIndexes(t *testing.T) {
	l := threePacks(t)[:2]
	for size := range 20 {
		lying := indexAnyhow(t, l[0].sum, entry{Id: api.Id{7}, Kind: 1, Off: 4, Size: size})
		d := laid(t, together(packFiles(l...), indexFiles(l...), files{labelOfIndex(l[0].sum, lying): lying}))
		first := l[0].index
		if labelOfIndex(l[0].sum, lying) < l[0].indexLabel {
			first = lying
		}
		checkKept(t, "two indexes", open(t, d), 2, 0)
		want := labelOfMerged(mergedBytes(t, first, l[1].index))
		if _, is := filesOf(d)[want]; !is {
			t.Errorf("size %d: there are %q, not %q", size, labelsOf(filesOf(d)), want)
		}
		checkAsModel(t, d, []api.Id{{7}, idOf(blob("all"))})
	}
}

// A pack that does not fit its label, or is none, gets no index; without one of it nothing is merged, and no filter made.
func TestKeepOfUnfitPack(t *testing.T) {
	l := threePacks(t)
	noPack := "mpk1 and more"
	for what, f := range map[string]files{
		"overwritten": {l[2].label: changed(l[2].data, 20)},
		"cut":         {l[2].label: l[2].data[:30]},
		"no pack":     {labelOfPack(sumOf(noPack)): noPack},
		"another one": {l[2].label: l[1].data},
	} {
		d := laid(t, together(packFiles(l[:2]...), f))
		s := checkAsModel(t, d, nil)
		checkTold(t, what, s, find.Told{Packs: 3, Scanned: 2, Salvaged: 1})
		checkKept(t, what, s, 2, 0)
		checkFiles(t, what, d, together(packFiles(l[:2]...), indexFiles(l[:2]...), f))
		checkKept(t, what, s, 0, 0)
	}
	// With its index it is as any other one; and so is what is no pack, with one by hand.
	d := laid(t, together(packFiles(l[:2]...), files{l[2].label: "x"}, indexFiles(l[2])))
	checkKept(t, "overwritten, with an index", open(t, d), 4, 0)
	checkFiles(t, "overwritten, with an index", d, together(allFiles(t, l...), files{l[2].label: "x"}))
	byHand := indexAnyhow(t, sumOf(noPack))
	d = laid(t, together(packFiles(l[0]), files{labelOfPack(sumOf(noPack)): noPack, labelOfIndex(sumOf(noPack), byHand): byHand}))
	checkKept(t, "no pack, with an index", open(t, d), 3, 0)
	checkTold(t, "no pack, with an index", open(t, d), find.Told{Packs: 2, Merged: 2, Filter: true})
}

// A filter of the disk's packs serves, whatever names it has, and then none is made.
func TestKeepFilterThatServes(t *testing.T) {
	p := packOf(t, blob("a"), blob("b"))
	for _, f := range []files{filterFiles([]api.Id{p.sum}), filterFiles([]api.Id{p.sum}, blob("x"), blob("a"))} {
		d := laid(t, together(packFiles(p), f))
		checkKept(t, "a filter by hand", open(t, d), 1, 0)
		checkFiles(t, "a filter by hand", d, together(packFiles(p), indexFiles(p), f))
	}
}

// Packs that came or went since the shelf was opened are kept as those that were there.
func TestKeepSeesDisk(t *testing.T) {
	l := threePacks(t)
	d := laid(t, packFiles(l[1]))
	s := open(t, d)
	find.Write(d, l[0].label, l[0].data)
	checkKept(t, "one came", s, 4, 0)
	checkFiles(t, "one came", d, allFiles(t, l[:2]...))
	find.Write(d, l[2].label, l[2].data)
	d.Remove(l[1].label)
	left := []packed{l[0], l[2]}
	checkKept(t, "one came, one went", s, 3, 3)
	checkFiles(t, "one came, one went", d, allFiles(t, left...))
	checkAsBrute(t, d, open(t, d), []api.Id{idOf(blob("all")), idOf(blob("two")), idOf(blob("x"))})
}

// checkAsBrute asks whether a shelf tells of each name what Brute tells.
func checkAsBrute(t *testing.T, d *disk.Disk, s *find.Shelf, names []api.Id) {
	t.Helper()
	m := modelOf(packsAlone(filesOf(d)))
	for _, id := range names {
		o, e := find.Brute(d, id)
		if got, gotE := s.Get(id); got != o || gotE != e || s.Has(id) != (e == api.OK) {
			t.Errorf("Get(%x): %q, %v, Has %t; Brute %q, %v", id, got, gotE, s.Has(id), o, e)
		}
		var want row
		if l := m.rows(id); len(l) > 0 {
			want = l[0]
		}
		if sum, n, e2 := s.Where(id); sum != want.Pack || n != want.Entry || e2 != e {
			t.Errorf("Where(%x): %x, %+v, %v; want %+v, %v", id, sum, n, e2, want, e)
		}
	}
}

func packsAlone(l files) files {
	only := maps.Clone(l)
	maps.DeleteFunc(only, func(label, _ string) bool { return !strings.HasPrefix(label, "pack-") })
	return only
}

// The order in which Keep writes and removes: what there is, but files beside, as the disk goes down at each of its calls.
func TestKeepOrder(t *testing.T) {
	l := threePacks(t)
	f := together(packFiles(l...), mergedFiles(t, l[0]), filterFiles(nil), files{"idx-z": "", "midx-0": "x", "bloom-": "y", "idx-0": ""})
	want := []files{f}
	all := allFiles(t, l...)
	for _, label := range append(labelsOf(indexFiles(l...)), labelsOf(mergedFiles(t, l...))[0], filterLabelOf(all)) {
		next := maps.Clone(want[len(want)-1])
		next[label] = all[label]
		want = append(want, next)
	}
	useless := labelsOf(together(mergedFiles(t, l[0]), filterFiles(nil), files{"idx-z": "", "midx-0": "", "bloom-": "", "idx-0": ""}))
	for _, label := range useless {
		next := maps.Clone(want[len(want)-1])
		delete(next, label)
		want = append(want, next)
	}
	at := 0
	for call := 1; ; call++ {
		d := laid(t, f)
		s := open(t, d)
		d.Plan(call, disk.Crash{})
		w, r, e := s.Keep()
		if !d.Down() {
			if w != 5 || r != len(useless) || e != api.OK {
				t.Errorf("Keep: %d, %d, %v", w, r, e)
			}
			break
		}
		if w != 0 || r != 0 || e != api.ErrDown {
			t.Errorf("Keep, down at call %d: %d, %d, %v", call, w, r, e)
		}
		now := filesOf(d)
		maps.DeleteFunc(now, func(label, _ string) bool { return strings.HasPrefix(label, "tmp-") })
		if at < len(want)-1 && maps.Equal(now, want[at+1]) {
			at++
		}
		checkEqualFiles(t, "down at call "+strconv.Itoa(call), now, want[at])
	}
	if at != len(want)-1 {
		t.Errorf("%d steps of %d were seen", at, len(want)-1)
	}
}

func checkEqualFiles(t *testing.T, what string, now, want files) {
	t.Helper()
	if !maps.Equal(now, want) {
		t.Errorf("%s: there are %q, want %q", what, labelsOf(now), labelsOf(want))
	}
}

func filterLabelOf(l files) string {
	for label := range l {
		if strings.HasPrefix(label, "bloom-") {
			return label
		}
	}
	return ""
}

// Without room for a file those written ahead of it stay, and nothing is removed.
func TestKeepWithoutRoom(t *testing.T) {
	l := threePacks(t)
	f := together(packFiles(l...), files{"idx-z": "useless"})
	all := allFiles(t, l...)
	labels := append(labelsOf(indexFiles(l...)), labelsOf(mergedFiles(t, l...))[0], filterLabelOf(all))
	want := maps.Clone(f)
	for _, label := range labels {
		used := len(all[label]) - 1
		for _, data := range want {
			used += len(data)
		}
		d := laid(t, f)
		s := open(t, d)
		d.Quota(int64(used))
		if w, r, e := s.Keep(); w != 0 || r != 0 || e != api.ErrFull {
			t.Errorf("Keep without room for %s: %d, %d, %v", label, w, r, e)
		}
		checkFiles(t, "without room", d, want)
		checkAsBrute(t, d, open(t, d), []api.Id{idOf(blob("all")), idOf(blob("two"))})
		d.Quota(1 << 20)
		checkKept(t, "with room again", s, len(labels)+len(f)-len(want), 1)
		checkFiles(t, "with room again", d, all)
		want[label] = all[label]
	}
}

func TestKeepTooManyFiles(t *testing.T) {
	p := packOf(t, blob("a"))
	f := packFiles(p)
	for i := range api.MaxFiles - 2 {
		f["f"+strconv.Itoa(i)] = ""
	}
	d := laid(t, f)
	if w, r, e := open(t, d).Keep(); w != 0 || r != 0 || e != api.ErrFull {
		t.Errorf("Keep: %d, %d, %v", w, r, e)
	}
	checkFiles(t, "too many files", d, together(f, indexFiles(p)))
}

// The directory is made safe just if something was written or removed.
func TestKeepMakesSafe(t *testing.T) {
	l := threePacks(t)
	isThere := func(d *disk.Disk) bool {
		d.Create("not-safe")
		open(t, d).Keep()
		d.Pull(disk.Crash{})
		d.Restart()
		_, is := filesOf(d)["not-safe"]
		return is
	}
	all := allFiles(t, l...)
	d := laid(t, all)
	if isThere(d) {
		t.Error("nothing was written, and the directory is safe")
	}
	d.Remove(l[0].indexLabel)
	if !isThere(d) {
		t.Error("an index was written, and the directory is not safe")
	}
	d = laid(t, together(all, files{"idx-": ""}))
	if !isThere(d) {
		t.Error("a file was removed, and the directory is not safe")
	}
	d = laid(t, packFiles(l...))
	open(t, d).Keep()
	d.Pull(disk.Crash{})
	d.Restart()
	checkFiles(t, "all that was written is safe", d, all)
}

// A disk that goes down at any call of a Keep: whatever survives, each file is whole, or beside; all is told as before; and Keep makes it all.
func TestKeepGoesDown(t *testing.T) {
	l := threePacks(t)
	f := together(packFiles(l...), mergedFiles(t, l[:2]...), files{"idx-z": "useless"}, filterFiles(sumsOf(l[:2]...)))
	all := allFiles(t, l...)
	names := []api.Id{idOf(blob("all")), idOf(blob("two")), idOf(blob("x")), idOf(blob("none"))}
	calls := 0
	for isDown := true; isDown; {
		calls++
		for dir := range 30 {
			d := laid(t, f)
			s := open(t, d)
			crash := disk.Crash{Dir: dir, Keep: []int{dir * 7, 3, 1000}}
			d.Plan(calls, crash)
			s.Keep()
			isDown = d.Down()
			if !isDown {
				d.Pull(crash)
			}
			d.Restart()
			for label, data := range filesOf(d) {
				if data != f[label] && data != all[label] && !strings.HasPrefix(label, "tmp-") {
					t.Errorf("down at call %d, %d changes: %q has %d bytes", calls, dir, label, len(data))
				}
			}
			s = checkAsModel(t, d, names)
			checkAsBrute(t, d, s, names)
			find.Clean(d)
			checkKeepAsModel(t, d, s)
			checkFiles(t, "behind the crash", d, all)
		}
	}
	if calls < 20 {
		t.Errorf("%d calls", calls)
	}
}

// manyEntries are so many names, from one on that no other call tells.
func manyEntries(from, n int) []entry {
	l := make([]entry, n)
	for i := range l {
		l[i] = entry{Kind: 1, Off: 4 + i, Size: i % 9}
		binary.BigEndian.PutUint32(l[i].Id[:], uint32(from+i)*2654435761)
	}
	return l
}

// indexedAnyhow are packs that are none, with an index of so many names each.
func indexedAnyhow(t *testing.T, counts ...int) (l []packed) {
	t.Helper()
	from := 0
	for i, n := range counts {
		data := "no pack " + strconv.Itoa(i)
		sum := sumOf(data)
		x := indexAnyhow(t, sum, manyEntries(from, n)...)
		l = append(l, packed{sum: sum, label: labelOfPack(sum), data: data, indexLabel: labelOfIndex(sum, x), index: x})
		from += n
	}
	slices.SortFunc(l, func(a, b packed) int { return order(a.sum, b.sum) })
	return l
}

// Where there are more names than a merged file may have rows, or a filter is made for, neither is made, and all else is done.
func TestKeepOfTooManyNames(t *testing.T) {
	full := slices.Repeat([]int{api.MaxObjects}, midx.MaxRows/api.MaxObjects)
	l := indexedAnyhow(t, append(full, 1)...)
	d := laid(t, together(packFiles(l...), indexFiles(l...), files{"idx-z": "useless"}))
	s := open(t, d)
	checkTold(t, "too many names", s, find.Told{Packs: len(l), Indexed: len(l)})
	if n := len(s.Ids()); n != midx.MaxRows+1 || midx.MaxRows != bloom.MaxFit {
		t.Errorf("%d names", n)
	}
	checkKept(t, "too many names", s, 0, 1)
	checkFiles(t, "too many names", d, together(packFiles(l...), indexFiles(l...)))
	one := slices.IndexFunc(l, func(p packed) bool { x, _ := idx.Open(p.index); return x.Len() == 1 })
	d.Remove(l[one].label)
	checkKept(t, "as many names as may be", s, 2, 1)
	s = open(t, d)
	checkTold(t, "as many names as may be", s, find.Told{Packs: len(full), Merged: len(full), Filter: true})
	if n := len(s.Ids()); n != midx.MaxRows {
		t.Errorf("%d names", n)
	}
}

package find_test

import (
	"bytes"
	"crypto/sha256"
	"encoding/binary"
	"encoding/hex"
	"maps"
	"regexp"
	"slices"
	"strings"
	"testing"

	"muniment/api"
	"muniment/bloom"
	"muniment/disk"
	"muniment/find"
	"muniment/idx"
	"muniment/midx"
	"muniment/pack"
)

type (
	entry  = pack.Entry
	object = pack.Object
	row    = midx.Row
	files  = map[string]string // by their labels
)

// What the tests reckon by the chapter's words, of a disk's files as they stand, each time from the beginning.

var (
	packLabel   = regexp.MustCompile(`^pack-([0-9a-f]{64})\.pk$`)
	indexLabel  = regexp.MustCompile(`^idx-([0-9a-f]{64})-([0-9a-f]{64})\.ix$`)
	mergedLabel = regexp.MustCompile(`^midx-([0-9a-f]{64})\.mx$`)
	filterLabel = regexp.MustCompile(`^bloom-([0-9a-f]{64})\.bf$`)
)

func order(a, b api.Id) int { return bytes.Compare(a[:], b[:]) }

func digits(s string) string {
	sum := sha256.Sum256([]byte(s))
	return hex.EncodeToString(sum[:])
}

func sumOf(s string) api.Id { return sha256.Sum256([]byte(s)) }

func idOf(o object) api.Id {
	return sumOf(string([]byte{o.Kind}) + string(binary.BigEndian.AppendUint64(nil, uint64(len(o.Payload)))) + o.Payload)
}

func labelOfPack(sum api.Id) string { return "pack-" + hex.EncodeToString(sum[:]) + ".pk" }

func labelOfIndex(sum api.Id, s string) string {
	return "idx-" + hex.EncodeToString(sum[:]) + "-" + digits(s) + ".ix"
}

func labelOfMerged(s string) string { return "midx-" + digits(s) + ".mx" }

func labelOfFilter(s string) string { return "bloom-" + digits(s) + ".bf" }

func idOfDigits(s string) (id api.Id) {
	hex.Decode(id[:], []byte(s))
	return id
}

// packsAhead is what stands ahead of the filter in a filter file.
func packsAhead(packs []api.Id) string {
	s := string(binary.AppendUvarint(nil, uint64(len(packs))))
	for _, sum := range packs {
		s += string(sum[:])
	}
	return s
}

// model is what a shelf is of some files.
type model struct {
	files  files
	packs  []api.Id
	told   find.Told
	taken  []*midx.Index
	own    map[api.Id][]entry // of the packs that no taken merged file says
	filter *bloom.Filter
}

func filesOf(d *disk.Disk) files {
	l := files{}
	for _, f := range d.Files() {
		l[f.Name] = f.Data
	}
	return l
}

func modelOf(l files) *model {
	m := &model{files: maps.Clone(l), own: map[api.Id][]entry{}}
	for _, label := range m.labels("pack-") {
		if parts := packLabel.FindStringSubmatch(label); parts != nil {
			m.packs = append(m.packs, idOfDigits(parts[1]))
		}
	}
	slices.SortFunc(m.packs, order)
	m.told.Packs = len(m.packs)
	said := map[api.Id]bool{}
	for _, label := range m.labels("midx-") {
		x := m.merged(label)
		isNew := func(sum api.Id) bool { return !said[sum] }
		if x == nil || !slices.ContainsFunc(x.Packs(), isNew) {
			continue
		}
		m.taken = append(m.taken, x)
		for _, sum := range x.Packs() {
			said[sum] = true
		}
	}
	m.told.Merged = len(said)
	for _, sum := range m.packs {
		if !said[sum] {
			m.own[sum] = m.ownOf(sum, &m.told)
		}
	}
	for _, label := range m.labels("bloom-") {
		if m.filter == nil {
			m.filter = m.filterIn(label)
		}
	}
	m.told.Filter = m.filter != nil
	return m
}

func (m *model) labels(front string) []string {
	var l []string
	for _, label := range slices.Sorted(maps.Keys(m.files)) {
		if strings.HasPrefix(label, front) {
			l = append(l, label)
		}
	}
	return l
}

func (m *model) hasPack(sum api.Id) bool { return slices.Contains(m.packs, sum) }

// index is the index that a file is, if it serves.
func (m *model) index(label string) *idx.Index {
	parts := indexLabel.FindStringSubmatch(label)
	if parts == nil || digits(m.files[label]) != parts[2] || !m.hasPack(idOfDigits(parts[1])) {
		return nil
	}
	if x, e := idx.Open(m.files[label]); e == api.OK && x.Pack() == idOfDigits(parts[1]) {
		return x
	}
	return nil
}

// merged is the merged index that a file is, if it serves.
func (m *model) merged(label string) *midx.Index {
	parts := mergedLabel.FindStringSubmatch(label)
	if parts == nil || digits(m.files[label]) != parts[1] {
		return nil
	}
	x, e := midx.Open(m.files[label])
	if e != api.OK {
		return nil
	}
	for _, sum := range x.Packs() {
		if !m.hasPack(sum) {
			return nil
		}
	}
	return x
}

// filterIn is the filter that a file has, if it serves.
func (m *model) filterIn(label string) *bloom.Filter {
	s := m.files[label]
	parts := filterLabel.FindStringSubmatch(label)
	if parts == nil || digits(s) != parts[1] || !strings.HasPrefix(s, packsAhead(m.packs)) {
		return nil
	}
	f, e := bloom.Decode(s[len(packsAhead(m.packs)):])
	if e != api.OK {
		return nil
	}
	return f
}

// firstIndex is a pack's first index file that serves, or "".
func (m *model) firstIndex(sum api.Id) string {
	for _, label := range m.labels("idx-" + hex.EncodeToString(sum[:]) + "-") {
		if m.index(label) != nil {
			return label
		}
	}
	return ""
}

func (m *model) ownOf(sum api.Id, t *find.Told) []entry {
	if label := m.firstIndex(sum); label != "" {
		t.Indexed++
		return m.index(label).All()
	}
	s := m.files[labelOfPack(sum)]
	l, e := pack.Scan(s)
	if e == api.OK && sumOf(s) == sum {
		t.Scanned++
	} else {
		t.Salvaged++
		l = firstOfEachName(pack.Salvage(s))
	}
	slices.SortFunc(l, func(a, b entry) int { return order(a.Id, b.Id) })
	return l
}

func firstOfEachName(all []entry) []entry {
	var l []entry
	met := map[api.Id]bool{}
	for _, n := range all {
		if !met[n.Id] {
			l = append(l, n)
		}
		met[n.Id] = true
	}
	return l
}

func (m *model) ids() []api.Id {
	met := map[api.Id]struct{}{}
	for _, x := range m.taken {
		for _, n := range x.All() {
			met[n.Entry.Id] = struct{}{}
		}
	}
	for _, l := range m.own {
		for _, n := range l {
			met[n.Id] = struct{}{}
		}
	}
	return slices.SortedFunc(maps.Keys(met), order)
}

// rows are the entries of a name: pack by pack, in order, the one that counts.
func (m *model) rows(id api.Id) []row {
	if m.filter != nil && !m.filter.Has(id) {
		return nil
	}
	var l []row
	for _, sum := range m.packs {
		if n, is := m.entryIn(sum, id); is {
			l = append(l, row{Pack: sum, Entry: n})
		}
	}
	return l
}

func (m *model) entryIn(sum, id api.Id) (entry, bool) {
	for _, x := range m.taken {
		if n, e := x.Find(id); e == api.OK && n.Pack == sum {
			return n.Entry, true
		}
	}
	for _, n := range m.own[sum] {
		if n.Id == id {
			return n, true
		}
	}
	return entry{}, false
}

func (m *model) get(id api.Id) (object, api.Errno) {
	l := m.rows(id)
	if len(l) == 0 {
		return object{}, api.ErrNone
	}
	for _, x := range l {
		s := m.files[labelOfPack(x.Pack)]
		end := x.Entry.Off + 9 + x.Entry.Size
		if end > len(s) {
			continue
		}
		if o, e := pack.One(s[x.Entry.Off:end]); e == api.OK && idOf(o) == id {
			return o, api.OK
		}
	}
	return object{}, api.ErrCorrupt
}

func (m *model) brute(id api.Id) (object, api.Errno) {
	for _, sum := range m.packs {
		s := m.files[labelOfPack(sum)]
		for _, n := range pack.Salvage(s) {
			if n.Id == id {
				return pack.Read(s, n.Off)
			}
		}
	}
	return object{}, api.ErrNone
}

// kept are the files behind a Keep, and how many were written and removed.
func (m *model) kept() (now files, written, removed int) {
	now = maps.Clone(m.files)
	put := func(label, s string) {
		now[label] = s
		written++
	}
	for _, sum := range m.packs {
		s := now[labelOfPack(sum)]
		if x, e := idx.From(s); e == api.OK && sumOf(s) == sum && m.firstIndex(sum) == "" {
			put(labelOfIndex(sum, x), x)
		}
	}
	if m = modelOf(now); len(m.packs) > 1 && m.areIndexed() && !slices.ContainsFunc(m.labels("midx-"), m.isMergedOfAll) {
		var l []string
		for _, sum := range m.packs {
			l = append(l, now[m.firstIndex(sum)])
		}
		if s, e := midx.Merge(l); e == api.OK {
			put(labelOfMerged(s), s)
		}
	}
	if m = modelOf(now); len(m.packs) > 0 && m.areIndexed() && m.filter == nil {
		s := packsAhead(m.packs) + filterBytes(m.ids())
		put(labelOfFilter(s), s)
	}
	m = modelOf(now)
	for label := range m.files {
		if m.isUseless(label) {
			delete(now, label)
			removed++
		}
	}
	return now, written, removed
}

func (m *model) areIndexed() bool {
	for _, sum := range m.packs {
		if m.firstIndex(sum) == "" {
			return false
		}
	}
	return true
}

func (m *model) isMergedOfAll(label string) bool {
	x := m.merged(label)
	return x != nil && slices.Equal(x.Packs(), m.packs)
}

func (m *model) isUseless(label string) bool {
	switch {
	case strings.HasPrefix(label, "idx-"):
		return m.index(label) == nil
	case strings.HasPrefix(label, "midx-"):
		return !m.isMergedOfAll(label)
	case strings.HasPrefix(label, "bloom-"):
		return m.filterIn(label) == nil
	}
	return false
}

// filterBytes are those of a filter of the size that fits, with these names.
func filterBytes(ids []api.Id) string {
	bits, hashes, _ := bloom.Fit(len(ids))
	f, _ := bloom.New(bits, hashes)
	for _, id := range ids {
		f.Add(id)
	}
	s, _ := f.Encode()
	return s
}

// checkAsModel asks of a disk's shelf all that it tells, and of the disk all that Brute tells, of these names and of all that are there.
func checkAsModel(t *testing.T, d *disk.Disk, names []api.Id) *find.Shelf {
	t.Helper()
	m := modelOf(filesOf(d))
	s := open(t, d)
	if s.Told() != m.told {
		t.Errorf("Told: %+v, want %+v", s.Told(), m.told)
	}
	if !slices.Equal(s.Packs(), m.packs) || !slices.Equal(s.Ids(), m.ids()) {
		t.Errorf("%d packs, %d names; want %d, %d", len(s.Packs()), len(s.Ids()), len(m.packs), len(m.ids()))
	}
	for _, id := range slices.Concat(names, m.ids()) {
		checkName(t, d, s, m, id)
	}
	for _, sum := range m.packs {
		want := m.ownOf(sum, &find.Told{})
		if l, e := s.In(sum); !slices.Equal(l, want) || e != api.OK {
			t.Errorf("In(%x): %v, %v; want %v", sum, l, e, want)
		}
	}
	return s
}

func checkName(t *testing.T, d *disk.Disk, s *find.Shelf, m *model, id api.Id) {
	t.Helper()
	var first row
	wantE := api.ErrNone
	if l := m.rows(id); len(l) > 0 {
		first, wantE = l[0], api.OK
	}
	if sum, n, e := s.Where(id); sum != first.Pack || n != first.Entry || e != wantE {
		t.Errorf("Where(%x): %x, %+v, %v; want %+v, %v", id, sum, n, e, first, wantE)
	}
	if s.Has(id) != (wantE == api.OK) {
		t.Errorf("Has(%x): %t", id, s.Has(id))
	}
	o, e := s.Get(id)
	if wantO, wantE := m.get(id); o != wantO || e != wantE {
		t.Errorf("Get(%x): %q, %v; want %q, %v", id, o, e, wantO, wantE)
	}
	b, bruteE := find.Brute(d, id)
	if wantO, wantE := m.brute(id); b != wantO || bruteE != wantE {
		t.Errorf("Brute(%x): %q, %v; want %q, %v", id, b, bruteE, wantO, wantE)
	}
	if e == api.OK && idOf(o) != id || bruteE == api.OK && idOf(b) != id {
		t.Errorf("asked for %x: %q, %q", id, o, b)
	}
}

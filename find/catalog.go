package find

import (
	"bytes"
	"slices"
	"strings"

	"muniment/api"
	"muniment/bloom"
	"muniment/disk"
	"muniment/idx"
	"muniment/midx"
	"muniment/pack"
	"muniment/wire"
)

// What the labels begin with of files that make finding quicker.
const (
	indexFront  = "idx-"
	mergedFront = "midx-"
	filterFront = "bloom-"
)

// catalog is what a disk has by its labels, as they were listed once.
type catalog struct {
	d       *disk.Disk
	labels  []string
	packs   []api.Id            // rising
	indexes map[api.Id][]string // the labels of the index files that say a pack, in order
}

func list(d *disk.Disk) (*catalog, api.Errno) {
	labels, e := d.List()
	if e != api.OK {
		return nil, e
	}
	c := &catalog{d: d, labels: labels, indexes: map[api.Id][]string{}}
	// The labels rise, and so do the sums, whose digits they say.
	for _, label := range labels {
		if sum, e := pack.Sum(label); e == api.OK {
			c.packs = append(c.packs, sum)
		}
		if sum, _, e := idx.Sums(label); e == api.OK {
			c.indexes[sum] = append(c.indexes[sum], label)
		}
	}
	return c, api.OK
}

// order says by its sign which of two names stands ahead.
func order(a, b api.Id) int { return bytes.Compare(a[:], b[:]) }

// place is where a pack stands among the disk's, and whether it is one of them.
func (c *catalog) place(sum api.Id) (int, bool) { return slices.BinarySearchFunc(c.packs, sum, order) }

// own are a pack's own entries, their names rising; by what they were told is counted in t.
func (c *catalog) own(sum api.Id, t *Told) ([]pack.Entry, api.Errno) {
	for _, label := range c.indexes[sum] {
		s, e := Whole(c.d, label)
		if e != api.OK {
			return nil, e
		}
		if x := servingIndex(label, s, sum); x != nil {
			t.Indexed++
			return x.All(), api.OK
		}
	}
	s, e := Whole(c.d, pack.Label(sum))
	if e != api.OK {
		return nil, e
	}
	l := entriesOf(sum, s, t)
	slices.SortFunc(l, func(a, b pack.Entry) int { return order(a.Id, b.Id) })
	return l, api.OK
}

// entriesOf are the entries that the bytes of a pack's file tell: all of a pack that fits, else those that are left.
func entriesOf(sum api.Id, s string, t *Told) []pack.Entry {
	if pack.Fits(pack.Label(sum), s) {
		if l, e := pack.Scan(s); e == api.OK {
			t.Scanned++
			return l
		}
	}
	t.Salvaged++
	met := map[api.Id]struct{}{}
	isMet := func(n pack.Entry) bool {
		_, was := met[n.Id]
		met[n.Id] = struct{}{}
		return was
	}
	return slices.DeleteFunc(pack.Salvage(s), isMet)
}

// servingIndex is the index that an index file of a pack is; nil, if the file does not serve.
func servingIndex(label, s string, sum api.Id) *idx.Index {
	if !idx.Fits(label, s) {
		return nil
	}
	x, e := idx.Open(s)
	if e != api.OK || x.Pack() != sum {
		return nil
	}
	return x
}

// servingMerged is the merged index that a merged file is; nil, if the file does not serve.
func (c *catalog) servingMerged(label, s string) *midx.Index {
	if midx.Check(label, s) != api.OK {
		return nil
	}
	x, e := midx.Open(s)
	isGone := func(sum api.Id) bool {
		_, isThere := c.place(sum)
		return !isThere
	}
	if e != api.OK || slices.ContainsFunc(x.Packs(), isGone) {
		return nil
	}
	return x
}

// servingFilter is the filter that a filter file has; nil, if the file does not serve.
func (c *catalog) servingFilter(label, s string) *bloom.Filter {
	// Packs have one form in a filter file, so that those of the disk are there just if their bytes are.
	encoded, isOfThese := strings.CutPrefix(s, packsBytes(c.packs))
	if !isOfThese || bloom.Name(s) != label {
		return nil
	}
	f, e := bloom.Decode(encoded)
	if e != api.OK {
		return nil
	}
	return f
}

// packsBytes is what stands in a filter file ahead of the filter.
func packsBytes(packs []api.Id) string {
	var b strings.Builder
	b.WriteString(wire.Put("", uint64(len(packs))))
	for _, sum := range packs {
		b.Write(sum[:])
	}
	return b.String()
}

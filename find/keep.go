package find

import (
	"slices"
	"strings"

	"muniment/api"
	"muniment/bloom"
	"muniment/digest"
	"muniment/idx"
	"muniment/midx"
	"muniment/pack"
)

// keeper is what one Keep knows, of the disk as it is then.
type keeper struct {
	*catalog
	firsts           []string // of each pack, in order, the first index that serves; "" if there is none
	isMerged         bool     // a merged file serves, and says all packs
	isFiltered       bool     // a filter file serves
	useless          []string // the labels of files that are to be removed, in order
	written, removed int
}

// Keep writes the indexes, the merged one and the filter that lack, and removes those that are of no use.
func (s *Shelf) Keep() (written, removed int, e api.Errno) {
	if s == nil {
		return 0, 0, api.ErrNil
	}
	c, e := list(s.d)
	if e != api.OK {
		return 0, 0, e
	}
	k := &keeper{catalog: c, firsts: make([]string, len(c.packs))}
	for _, do := range []func() api.Errno{k.look, k.writeIndexes, k.writeMerged, k.writeFilter, k.removeUseless, k.makeSafe} {
		if e := do(); e != api.OK {
			return 0, 0, e
		}
	}
	return k.written, k.removed, api.OK
}

// look reads all files that make finding quicker, and tells which are of use.
func (k *keeper) look() api.Errno {
	for _, label := range k.labels {
		isOfUse := k.judge(label)
		if isOfUse == nil {
			continue
		}
		s, e := Whole(k.d, label)
		if e != api.OK {
			return e
		}
		if !isOfUse(label, s) {
			k.useless = append(k.useless, label)
		}
	}
	return api.OK
}

// judge is what tells of a file with that label whether it is of use; nil if nobody asks that.
func (k *keeper) judge(label string) func(label, s string) bool {
	switch {
	case strings.HasPrefix(label, indexFront):
		return k.seeIndex
	case strings.HasPrefix(label, mergedFront):
		return k.seeMerged
	case strings.HasPrefix(label, filterFront):
		return k.seeFilter
	}
	return nil
}

func (k *keeper) seeIndex(label, s string) bool {
	sum, _, e := idx.Sums(label)
	at, isThere := k.place(sum)
	if e != api.OK || !isThere || servingIndex(label, s, sum) == nil {
		return false
	}
	if k.firsts[at] == "" {
		k.firsts[at] = s
	}
	return true
}

func (k *keeper) seeMerged(label, s string) bool {
	x := k.servingMerged(label, s)
	// It says packs of the disk alone, each once.
	saysAll := x != nil && len(x.Packs()) == len(k.packs)
	k.isMerged = k.isMerged || saysAll
	return saysAll
}

func (k *keeper) seeFilter(label, s string) bool {
	serves := k.servingFilter(label, s) != nil
	k.isFiltered = k.isFiltered || serves
	return serves
}

// write writes a file, which is of use then, whatever stood under its label.
func (k *keeper) write(label, s string) api.Errno {
	if e := Write(k.d, label, s); e != api.OK {
		return e
	}
	k.useless = slices.DeleteFunc(k.useless, func(l string) bool { return l == label })
	k.written++
	return api.OK
}

func (k *keeper) writeIndexes() api.Errno {
	for at, sum := range k.packs {
		if k.firsts[at] != "" {
			continue
		}
		label := pack.Label(sum)
		s, e := Whole(k.d, label)
		if e != api.OK {
			return e
		}
		if !pack.Fits(label, s) {
			continue
		}
		x, e := idx.From(s)
		if e != api.OK {
			continue
		}
		if e := k.write(idx.Label(sum, digest.Sum(x)), x); e != api.OK {
			return e
		}
		k.firsts[at] = x
	}
	return api.OK
}

// areIndexed says whether each pack has an index that serves.
func (k *keeper) areIndexed() bool { return !slices.Contains(k.firsts, "") }

func (k *keeper) writeMerged() api.Errno {
	if len(k.packs) < 2 || !k.areIndexed() || k.isMerged {
		return api.OK
	}
	s, e := midx.Merge(k.firsts)
	if e != api.OK {
		return api.OK
	}
	return k.write(midx.Name(s), s)
}

func (k *keeper) writeFilter() api.Errno {
	if len(k.packs) == 0 || !k.areIndexed() || k.isFiltered {
		return api.OK
	}
	// The shelf that was opened once may not know the packs that have come since.
	s, e := Open(k.d)
	if e != api.OK {
		return e
	}
	encoded, e := filterOf(s.Ids())
	if e != api.OK {
		return api.OK
	}
	data := packsBytes(k.packs) + encoded
	return k.write(bloom.Name(data), data)
}

// filterOf is the bytes of a filter with these names; an error if there are too many for one.
func filterOf(ids []api.Id) (string, api.Errno) {
	bits, hashes, e := bloom.Fit(len(ids))
	if e != api.OK {
		return "", e
	}
	f, e := bloom.New(bits, hashes)
	if e != api.OK {
		return "", e
	}
	for _, id := range ids {
		f.Add(id)
	}
	return f.Encode()
}

func (k *keeper) removeUseless() api.Errno {
	for _, label := range k.useless {
		if e := k.d.Remove(label); e != api.OK {
			return e
		}
		k.removed++
	}
	return api.OK
}

func (k *keeper) makeSafe() api.Errno {
	if k.written == 0 && k.removed == 0 {
		return api.OK
	}
	return k.d.SyncDir()
}

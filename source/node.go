package source

import (
	"maps"
	"slices"

	"muniment/api"
	"muniment/attrs"
)

// node is what stands at a path: a file, a folder or a link.
type node interface {
	own() *base
	mayBe() bool
	size() int
	height() int
	tell(path string) Node
	twin() node
}

// base is what a node has and does, whichever of the three it is; each of them embeds it, and does otherwise what its kind alone does.
type base struct {
	attr attrs.Attr // its Xattrs are never written to, so that a twin may have the same list
	ino  uint64
	tick int64
}

func (b *base) own() *base { return b }

// mayBe says whether a node may stand in a tree.
func (b *base) mayBe() bool { return attrs.Check(b.attr) == api.OK }

// height is how many names the longest path beneath a node has more than its own.
func (b *base) height() int { return 0 }

func (b *base) tell(path string) Node {
	return Node{Path: path, Attr: copied(b.attr), Ino: b.ino, Tick: b.tick}
}

// copied is the same attributes with a list of their own.
func copied(a attrs.Attr) attrs.Attr {
	a.Xattrs = slices.Clone(a.Xattrs)
	return a
}

type file struct {
	base
	data string
}

func (f *file) mayBe() bool { return len(f.data) <= api.MaxData && f.base.mayBe() }

func (f *file) size() int { return len(f.data) }

func (f *file) tell(path string) Node {
	n := f.base.tell(path)
	n.Data = f.data
	return n
}

func (f *file) twin() node {
	c := *f
	return &c
}

type link struct{ base }

func (l *link) size() int { return len(l.attr.Target) }

func (l *link) twin() node {
	c := *l
	return &c
}

type folder struct {
	base
	entries map[string]node
}

func newFolder(a attrs.Attr) *folder {
	return &folder{base: base{attr: a}, entries: map[string]node{}}
}

func (f *folder) size() int { return len(f.entries) }

func (f *folder) isFull() bool { return len(f.entries) >= api.MaxEntries }

// list is the names in a folder, rising.
func (f *folder) list() []string { return slices.Sorted(maps.Keys(f.entries)) }

func (f *folder) height() int {
	most := 0
	for _, n := range f.entries {
		most = max(most, 1+n.height())
	}
	return most
}

func (f *folder) twin() node {
	c := &folder{base: f.base, entries: make(map[string]node, len(f.entries))}
	for name, n := range f.entries {
		c.entries[name] = n.twin()
	}
	return c
}

// ofKind is a node, if there is one and it is of that kind.
func ofKind[K node](n node) (K, api.Errno) {
	var none K
	if n == nil {
		return none, api.ErrNone
	}
	k, ok := n.(K)
	if !ok {
		return none, api.ErrKind
	}
	return k, api.OK
}

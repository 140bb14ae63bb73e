package object

import (
	"strings"

	"muniment/api"
	"muniment/attrs"
	"muniment/names"
	"muniment/wire"
)

// content is what a payload says. Each kind of objects has a type of it: blob, list, Tree, stream, Commit.
type content interface {
	mayBe() bool
	payload() string
}

// blob is a file's bytes, which say nothing beside themselves.
type blob string

// list says of which items a file's bytes are made.
type list []Item

// stream is that of attributes. It stays as it stands: what the attributes are is not asked here, only whether they may be.
type stream string

// The limits that the chapter gives no names.
const (
	minKids     = 2 // items of a list
	minListSize = 2 // bytes beneath a list: its items have one each at least
)

// What a commit says of its parent, in a byte.
const (
	noParent  = "\x00"
	hasParent = "\x01"
)

func (b blob) mayBe() bool { return len(b) <= api.MaxPayload }

func (l list) mayBe() bool {
	if len(l) < minKids || len(l) > MaxKids {
		return false
	}
	for _, i := range l {
		if !isItem(i) || i.Size < 1 {
			return false
		}
	}
	return l.size() <= api.MaxData
}

// size is how many bytes are beneath the list.
func (l list) size() int {
	n := 0
	for _, i := range l {
		n += i.Size
	}
	return n
}

func isItem(i Item) bool {
	switch i.Kind {
	case api.KindBlob:
		return i.Size >= 0 && i.Size <= api.MaxData
	case api.KindList:
		return i.Size >= minListSize && i.Size <= api.MaxData
	}
	return false
}

func (t Tree) mayBe() bool {
	if len(t.Entries) > api.MaxEntries {
		return false
	}
	for i, n := range t.Entries {
		if names.Check(n.Name) != api.OK || !fitsNode(n.Node, n.Item) {
			return false
		}
		if i > 0 && !names.Less(t.Entries[i-1].Name, n.Name) {
			return false
		}
	}
	return true
}

// fitsNode says whether a file, a folder or a link may have this item.
func fitsNode(node uint8, i Item) bool {
	switch node {
	case api.NodeFile:
		return isItem(i)
	case api.NodeFolder:
		return i == folderItem(i.Id)
	case api.NodeLink:
		return i == Item{}
	}
	return false
}

// folderItem is the item of a folder that has this tree.
func folderItem(tree api.Id) Item { return Item{Kind: api.KindTree, Id: tree} }

func (s stream) mayBe() bool {
	_, e := attrs.ReadStream(string(s))
	return e == api.OK
}

func (c Commit) mayBe() bool {
	if c.First && c.Parent != (api.Id{}) {
		return false
	}
	return c.Tick >= 0 && c.Tick <= api.MaxTick && len(c.Note) <= MaxNote
}

func (b blob) payload() string { return string(b) }

func (l list) payload() string {
	var b strings.Builder
	b.WriteString(wire.Put("", uint64(len(l))))
	for _, i := range l {
		putItem(&b, i)
	}
	return b.String()
}

func putItem(b *strings.Builder, i Item) {
	b.WriteByte(i.Kind)
	b.WriteString(wire.Put("", uint64(i.Size)))
	b.Write(i.Id[:])
}

func (t Tree) payload() string {
	var b strings.Builder
	b.Write(t.Attrs[:])
	b.WriteString(wire.Put("", uint64(len(t.Entries))))
	for _, n := range t.Entries {
		b.WriteString(wire.PutText("", n.Name))
		b.WriteByte(n.Node)
		switch n.Node {
		case api.NodeFile:
			putItem(&b, n.Item)
		case api.NodeFolder:
			b.Write(n.Item.Id[:])
		}
	}
	return b.String()
}

func (s stream) payload() string { return string(s) }

func (c Commit) payload() string {
	s := string(c.Tree[:])
	if c.First {
		s += noParent
	} else {
		s += hasParent + string(c.Parent[:])
	}
	return wire.PutText(wire.Put(s, uint64(c.Tick)), c.Note)
}

// take is what a payload of a kind says, if it says something: see read. Of another kind it is nil.
func take(kind uint8, s string) content {
	r := wire.New(s)
	switch kind {
	case api.KindBlob:
		return blob(s)
	case api.KindList:
		return takeList(r)
	case api.KindTree:
		return takeTree(r)
	case api.KindAttrs:
		return stream(s)
	case api.KindCommit:
		return takeCommit(r)
	}
	return nil
}

func takeList(r *wire.Reader) list {
	var l list
	for range takeCount(r, MaxKids) {
		l = append(l, takeItem(r))
	}
	return l
}

func takeItem(r *wire.Reader) Item {
	kind := takeByte(r)
	size, _ := r.Uint()
	return Item{Kind: kind, Size: int(size), Id: takeId(r)}
}

func takeTree(r *wire.Reader) Tree {
	t := Tree{Attrs: takeId(r)}
	for range takeCount(r, api.MaxEntries) {
		t.Entries = append(t.Entries, takeEntry(r))
	}
	return t
}

func takeEntry(r *wire.Reader) Entry {
	name, _ := r.Text(api.MaxName)
	n := Entry{Name: name, Node: takeByte(r)}
	switch n.Node {
	case api.NodeFile:
		n.Item = takeItem(r)
	case api.NodeFolder:
		n.Item = folderItem(takeId(r))
	}
	return n
}

func takeCommit(r *wire.Reader) Commit {
	c := Commit{Tree: takeId(r)}
	parent, _ := r.Take(len(noParent))
	c.First = parent == noParent
	if !c.First {
		c.Parent = takeId(r)
	}
	tick, _ := r.Uint()
	c.Tick = int64(tick)
	c.Note, _ = r.Text(MaxNote)
	return c
}

// takeCount takes how many there are; a number above most, which may be too large to be counted up to, is none.
func takeCount(r *wire.Reader, most uint64) uint64 {
	n, _ := r.Uint()
	if n > most {
		return 0
	}
	return n
}

func takeByte(r *wire.Reader) uint8 {
	n, _ := r.Fixed(1)
	return uint8(n)
}

func takeId(r *wire.Reader) api.Id {
	var id api.Id
	s, _ := r.Take(len(id))
	copy(id[:], s)
	return id
}

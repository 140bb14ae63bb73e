package object_test

import (
	"crypto/sha256"
	"encoding/binary"
	"encoding/hex"
	"math"
	"math/rand"
	"slices"
	"strconv"
	"strings"
	"testing"
	"unicode/utf8"

	"muniment/api"
	"muniment/attrs"
	"muniment/object"
	"muniment/pack"
)

type (
	item   = object.Item
	entry  = object.Entry
	tree   = object.Tree
	commit = object.Commit
	ref    = object.Ref
)

// What the tests reckon by the chapter's words and the library's means alone, of things that may be and of such as may not.

func number(n uint64) string { return string(binary.AppendUvarint(nil, n)) }

func text(s string) string { return number(uint64(len(s))) + s }

func itemBytes(i item) string {
	return string([]byte{i.Kind}) + number(uint64(i.Size)) + string(i.Id[:])
}

func listBytes(l []item) string {
	var b strings.Builder
	b.WriteString(number(uint64(len(l))))
	for _, i := range l {
		b.WriteString(itemBytes(i))
	}
	return b.String()
}

func treeBytes(t tree) string {
	var b strings.Builder
	b.WriteString(string(t.Attrs[:]) + number(uint64(len(t.Entries))))
	for _, n := range t.Entries {
		b.WriteString(text(n.Name) + string([]byte{n.Node}))
		if n.Node == 1 {
			b.WriteString(itemBytes(n.Item))
		}
		if n.Node == 2 {
			b.WriteString(string(n.Item.Id[:]))
		}
	}
	return b.String()
}

func commitBytes(c commit) string {
	parent := "\x01" + string(c.Parent[:])
	if c.First {
		parent = "\x00"
	}
	return string(c.Tree[:]) + parent + number(uint64(c.Tick)) + text(c.Note)
}

func nameOf(kind uint8, payload string) api.Id {
	head := binary.BigEndian.AppendUint64([]byte{kind}, uint64(len(payload)))
	return sha256.Sum256(append(head, payload...))
}

func isName(s string) bool {
	return s != "" && len(s) <= 255 && utf8.ValidString(s) && utf8.RuneCountInString(s) <= 64 && s != "." && s != ".." &&
		!strings.ContainsFunc(s, func(r rune) bool { return r < 0x20 || r == 0x7f || r == '/' })
}

// plain reads bytes one thing after the other, and says at the end whether all were there.
type plain struct {
	rest string
	bad  bool
}

func (p *plain) take(n uint64) string {
	if p.bad || n > uint64(len(p.rest)) {
		p.bad = true
		return ""
	}
	s := p.rest[:n]
	p.rest = p.rest[n:]
	return s
}

func (p *plain) number(least, most uint64) uint64 {
	n, size := binary.Uvarint([]byte(p.rest[:min(10, len(p.rest))]))
	if size <= 0 || number(n) != p.rest[:size] || n < least || n > most {
		p.bad = true
		return 0
	}
	p.take(uint64(size))
	return n
}

func (p *plain) byte(most uint8) uint8 {
	s := p.take(1)
	if s == "" || s[0] > most {
		p.bad = true
		return 0
	}
	return s[0]
}

func (p *plain) id() (id api.Id) {
	copy(id[:], p.take(32))
	return id
}

func (p *plain) item(least uint64) item {
	kind := p.byte(2)
	if kind == 2 {
		least = 2
	}
	p.bad = p.bad || kind == 0
	return item{Kind: kind, Size: int(p.number(least, 1<<20)), Id: p.id()}
}

func (p *plain) fits() bool { return !p.bad && p.rest == "" }

func plainList(s string) ([]item, bool) {
	p := plain{rest: s}
	var l []item
	sum := 0
	for n := p.number(2, 1024); n > 0 && !p.bad; n-- {
		i := p.item(1)
		sum += i.Size
		l = append(l, i)
	}
	return l, p.fits() && sum <= 1<<20
}

func plainTree(s string) (tree, bool) {
	p := plain{rest: s}
	t := tree{Attrs: p.id()}
	rise := true
	last := ""
	for n := p.number(0, 256); n > 0 && !p.bad; n-- {
		x := entry{Name: p.take(p.number(1, 255)), Node: p.byte(3)}
		switch x.Node {
		case 0:
			p.bad = true
		case 1:
			x.Item = p.item(0)
		case 2:
			x.Item = item{Kind: 3, Id: p.id()}
		}
		rise = rise && isName(x.Name) && x.Name > last
		last = x.Name
		t.Entries = append(t.Entries, x)
	}
	return t, p.fits() && rise
}

func plainCommit(s string) (commit, bool) {
	p := plain{rest: s}
	c := commit{Tree: p.id()}
	c.First = p.byte(1) == 0
	if !c.First {
		c.Parent = p.id()
	}
	c.Tick = int64(p.number(0, 1<<40))
	c.Note = p.take(p.number(0, 4096))
	return c, p.fits()
}

func sameTree(a, b tree) bool { return a.Attrs == b.Attrs && slices.Equal(a.Entries, b.Entries) }

func listRefs(l []item) (refs []ref) {
	for _, i := range l {
		refs = append(refs, ref{i.Kind, i.Id})
	}
	return refs
}

func treeRefs(t tree) []ref {
	refs := []ref{{4, t.Attrs}}
	for _, n := range t.Entries {
		switch n.Node {
		case 1:
			refs = append(refs, ref{n.Item.Kind, n.Item.Id})
		case 2:
			refs = append(refs, ref{3, n.Item.Id})
		}
	}
	return refs
}

func commitRefs(c commit) []ref {
	if c.First {
		return []ref{{3, c.Tree}}
	}
	return []ref{{3, c.Tree}, {5, c.Parent}}
}

// refsOf is what Refs is to answer of whatever it is handed.
func refsOf(kind uint8, s string) ([]ref, api.Errno) {
	switch kind {
	case 1:
		if len(s) <= 1<<21 {
			return nil, api.OK
		}
	case 2:
		if l, ok := plainList(s); ok {
			return listRefs(l), api.OK
		}
	case 3:
		if t, ok := plainTree(s); ok {
			return treeRefs(t), api.OK
		}
	case 4:
		if _, e := attrs.ReadStream(s); e == api.OK {
			return nil, api.OK
		}
	case 5:
		if c, ok := plainCommit(s); ok {
			return commitRefs(c), api.OK
		}
	default:
		return nil, api.ErrKind
	}
	return nil, api.ErrForm
}

// Things that may be, and such as may not.

func id(n int) api.Id { return api.Id{0: byte(n), 1: byte(n >> 8), 31: byte(^n)} }

func idBytes(n int) string {
	x := id(n)
	return string(x[:])
}

func blob(size int) item { return item{Kind: 1, Size: size, Id: id(size)} }

func list(size int) item { return item{Kind: 2, Size: size, Id: id(size)} }

// items are n of them, each of size bytes.
func items(n, size int) []item {
	l := make([]item, n)
	for i := range l {
		l[i] = item{Kind: 1, Size: size, Id: id(i)}
	}
	return l
}

func goodLists() [][]item {
	return [][]item{
		{blob(1), blob(1)}, {blob(1), blob(2)}, {blob(2), blob(1)}, {list(2), list(2)}, {list(2), blob(1)}, {blob(1), list(2)}, {{1, 1, api.Id{}}, {2, 2, api.Id{}}},
		{blob(126), blob(127), blob(128), list(129)}, {blob(16383), blob(16384)}, {list(65535), blob(65536), list(65537)},
		{blob(1<<20 - 1), blob(1)}, {blob(1), blob(1<<20 - 1)}, {list(1<<20 - 2), list(2)}, {blob(1 << 19), list(1 << 19)}, {list(1<<20 - 1), blob(1)}, {blob(1 << 19), list(1<<19 - 1)},
		items(3, 5), items(127, 1), items(128, 1), items(129, 1), items(1023, 1), items(1024, 1), items(1024, 1024), items(1023, 1025), items(1024, 1023),
	}
}

func badLists() [][]item {
	l := [][]item{
		nil, {}, {blob(1)}, {list(2)}, {blob(1 << 20)}, items(1025, 1), items(5000, 1), append(items(1024, 1), item{}),
		{blob(1 << 20), blob(1)}, {blob(1), blob(1 << 20)}, {list(1 << 20), list(2)}, {blob(1 << 20), blob(1 << 20)}, {list(1<<20 - 1), list(2)}, append(items(1023, 1024), blob(1025)), items(1024, 1025), items(1024, 1<<20),
		{blob(math.MaxInt), blob(math.MaxInt)}, {blob(math.MaxInt), blob(math.MaxInt), blob(3)}, {blob(math.MinInt), blob(math.MinInt)}, {blob(math.MaxInt), blob(math.MinInt)}, {blob(-5), blob(10)}, {blob(10), blob(-5)},
	}
	for _, bad := range []item{{}, blob(0), blob(-1), blob(math.MinInt), blob(1<<20 + 1), blob(math.MaxInt), list(1), list(0), list(-1), list(-2), list(1<<20 + 1), list(math.MinInt), {0, 1, id(1)}, {0, 0, id(1)}, {3, 2, id(1)}, {3, 0, id(1)}, {4, 2, id(1)}, {5, 2, id(1)}, {6, 2, id(1)}, {255, 2, id(1)}, {129, 2, id(1)}} {
		l = append(l, []item{bad, blob(1)}, []item{list(2), bad}, []item{bad, bad}, []item{blob(1), bad, list(2)}, append(items(1023, 1), bad))
	}
	return l
}

func file(name string, i item) entry { return entry{Name: name, Node: 1, Item: i} }

func folder(name string) entry {
	return entry{Name: name, Node: 2, Item: item{Kind: 3, Id: id(len(name))}}
}

func link(name string) entry { return entry{Name: name, Node: 3} }

func treeOf(l ...entry) tree { return tree{Attrs: id(7), Entries: l} }

// links are n of them, their names rising.
func links(n int) []entry {
	l := make([]entry, n)
	for i := range l {
		l[i] = link(strconv.Itoa(10000 + i))
	}
	return l
}

func goodTrees() []tree {
	l := []tree{
		{}, {Attrs: id(9)}, treeOf(), treeOf(file("a", blob(0))), treeOf(file("a", blob(1))), treeOf(file("a", blob(127)), file("b", blob(128))), treeOf(file("a", blob(1<<20-1))), treeOf(file("a", blob(1<<20))),
		treeOf(file("a", list(2))), treeOf(file("a", list(3))), treeOf(file("a", list(1<<20))), treeOf(file("a", item{Kind: 1})), treeOf(file("a", blob(1<<20)), file("b", list(1<<20)), file("c", blob(1<<20))),
		treeOf(folder("a")), treeOf(entry{"a", 2, item{Kind: 3}}), treeOf(link("a")), treeOf(file("a", blob(5)), link("b")), treeOf(link("a"), file("b", blob(5))), treeOf(folder("a"), folder("b")), treeOf(link("a"), link("b")),
		treeOf(file("a", blob(5)), folder("b"), link("c")), treeOf(link("a"), folder("b"), file("c", list(5))), treeOf(folder("a"), file("b", blob(0)), folder("c"), link("d"), file("e", list(77)), link("f")),
		treeOf(link("Z"), link("a")), treeOf(link("a"), link("aa")), treeOf(link("a b"), link("a.b")), treeOf(link("z"), link("é")), treeOf(link("\uFFFD"), link("😀")), treeOf(link("..."), link(".a"), link("a.")), treeOf(link(" ")),
		treeOf(link(strings.Repeat("a", 64))), treeOf(folder(strings.Repeat("😀", 63) + "日")), treeOf(file(strings.Repeat("é", 64), blob(1))), treeOf(file(strings.Repeat("日", 42)+"é", list(3))), treeOf(link(strings.Repeat("日", 42)+"éa"), link(strings.Repeat("日", 43))),
		treeOf(links(127)...), treeOf(links(128)...), treeOf(links(255)...), treeOf(links(256)...),
	}
	most := treeOf(links(256)...)
	for i := range most.Entries {
		most.Entries[i].Name += strings.Repeat("😀", 59)
		switch i % 3 {
		case 0:
			most.Entries[i].Node, most.Entries[i].Item = 1, list(1<<20)
		case 1:
			most.Entries[i].Node, most.Entries[i].Item = 2, item{3, 0, id(i)}
		}
	}
	return append(l, most)
}

// badTrees are such as may not be, each for one cause that its bytes show.
func badTrees() []tree {
	l := []tree{
		treeOf(link("b"), link("a")), treeOf(link("a"), link("a")), treeOf(file("a", blob(1)), folder("a")), treeOf(link("aa"), link("a")), treeOf(link("a"), link("Z")), treeOf(link("é"), link("z")), treeOf(link("😀"), link("\uFFFD")),
		treeOf(link("a"), link("c"), link("b")), treeOf(link("a"), link("b"), link("a")), treeOf(append(links(255), link("0"))...), treeOf(append(links(255), links(255)[254])...),
		treeOf(links(257)...), treeOf(links(300)...), treeOf(links(5000)...),
	}
	for _, name := range []string{"", ".", "..", "a/b", "/", "a/", "/a", "\x00", "a\x00", "\n", "\x1f", "\x7f", "\xff", "a\xc3", "\xed\xa0\x80", strings.Repeat("a", 65), strings.Repeat("é", 65), strings.Repeat("😀", 64), strings.Repeat("a", 256), strings.Repeat("a", 100000)} {
		l = append(l, treeOf(link(name)), treeOf(folder(name)), treeOf(file(name, blob(1))), treeOf(link("!"), link(name)), treeOf(link(name), link("\U0010FFFF")))
	}
	bad := []entry{{"m", 0, item{}}, {"m", 0, blob(1)}, {"m", 4, item{}}, {"m", 4, blob(1)}, {"m", 5, item{}}, {"m", 129, item{}}, {"m", 255, item{}}}
	for _, i := range []item{{}, {0, 1, id(1)}, {3, 0, id(1)}, {3, 5, id(1)}, {4, 5, id(1)}, {5, 5, id(1)}, {6, 5, id(1)}, {255, 5, id(1)}, blob(-1), blob(math.MinInt), blob(1<<20 + 1), blob(math.MaxInt), list(1), list(0), list(-1), list(1<<20 + 1), list(math.MaxInt)} {
		bad = append(bad, file("m", i))
	}
	for _, n := range bad {
		l = append(l, treeOf(n), treeOf(link("a"), n), treeOf(n, file("z", blob(1))), treeOf(folder("a"), n, link("z")))
	}
	return l
}

// hiddenBadTrees may not be either, but their items would not stand in the bytes.
func hiddenBadTrees() []tree {
	var l []tree
	for _, i := range []item{{}, {0, 0, id(1)}, {1, 0, id(1)}, {2, 2, id(1)}, {2, 0, id(1)}, {4, 0, id(1)}, {5, 0, id(1)}, {255, 0, id(1)}, {3, 1, id(1)}, {3, -1, id(1)}, {3, math.MaxInt, id(1)}, {3, 1, api.Id{}}} {
		l = append(l, treeOf(entry{"m", 2, i}), treeOf(link("a"), entry{"m", 2, i}, link("z")))
	}
	for _, i := range []item{{0, 0, api.Id{31: 1}}, {0, 0, api.Id{0: 1}}, {0, 1, api.Id{}}, {0, -1, api.Id{}}, {1, 0, api.Id{}}, {2, 0, api.Id{}}, {3, 0, api.Id{}}, {255, 0, api.Id{}}, blob(1), list(2), {3, 0, id(1)}} {
		l = append(l, treeOf(entry{"m", 3, i}), treeOf(folder("a"), entry{"m", 3, i}, link("z")))
	}
	return l
}

func goodCommits() []commit {
	l := []commit{{}, {First: true}, {First: true, Tick: 300, Note: "x"}, {Tree: id(1)}, {Tree: id(1), First: true}, {Tree: id(1), Parent: id(2), Tick: 7}, {Tree: id(1), Parent: id(1)}, {Parent: api.Id{31: 1}}, {Tree: id(3), First: true, Tick: 1 << 40, Note: strings.Repeat("n", 4096)}}
	for _, tick := range []int64{1, 127, 128, 16383, 16384, 1 << 32, 1<<40 - 1, 1 << 40} {
		l = append(l, commit{Tree: id(4), Parent: id(5), Tick: tick, Note: "note"}, commit{First: true, Tick: tick})
	}
	for _, note := range []string{" ", "\x00", "\n", "\xff\xfe", "é", strings.Repeat("n", 127), strings.Repeat("n", 128), strings.Repeat("\xff", 4095), strings.Repeat("\x00", 4096)} {
		l = append(l, commit{Tree: id(6), Parent: id(7), Tick: 1, Note: note}, commit{First: true, Note: note})
	}
	return l
}

// badCommits are such as may not be, each for one cause that its bytes show.
func badCommits() []commit {
	var l []commit
	for _, first := range []bool{false, true} {
		for _, tick := range []int64{-1, -300, math.MinInt64, 1<<40 + 1, 1 << 41, math.MaxInt64} {
			l = append(l, commit{Tree: id(1), First: first, Tick: tick, Note: "x"})
		}
		for _, n := range []int{4097, 5000, 100000} {
			l = append(l, commit{Tree: id(1), First: first, Tick: 5, Note: strings.Repeat("n", n)})
		}
	}
	return l
}

func anyItem(r *rand.Rand, least int) item {
	i := item{Kind: uint8(1 + r.Intn(2)), Id: id(r.Intn(1 << 16))}
	least = max(least, 2*int(i.Kind-1))
	i.Size = least + r.Intn(1<<r.Intn(15))
	return i
}

func anyList(r *rand.Rand) []item {
	l := []item{anyItem(r, 1), anyItem(r, 1)}
	for range r.Intn(20) * r.Intn(2) {
		l = append(l, anyItem(r, 1))
	}
	return l
}

func anyTree(r *rand.Rand) tree {
	t := tree{Attrs: id(r.Intn(1 << 16))}
	for i := range r.Intn(12) {
		name := string(rune('a'+i)) + strings.Repeat("é", r.Intn(4))
		t.Entries = append(t.Entries, []entry{file(name, anyItem(r, 0)), folder(name), link(name)}[r.Intn(3)])
	}
	return t
}

func anyCommit(r *rand.Rand) commit {
	c := commit{Tree: id(r.Intn(1 << 16)), Tick: r.Int63n(1<<40+1) >> r.Intn(41), Note: some(r, r.Intn(200)), First: r.Intn(2) == 0}
	if !c.First {
		c.Parent = id(r.Intn(1 << 16))
	}
	return c
}

func some(r *rand.Rand, n int) string {
	b := make([]byte, n)
	r.Read(b)
	return string(b)
}

// goodStreams are payloads of attrs.
func goodStreams() []string {
	var l []string
	folder := attrs.Attr{Node: api.NodeFolder, Mode: 0755}
	for _, x := range [][]attrs.Attr{{folder}, {folder, {Node: api.NodeFile, Mtime: 5}, {Node: api.NodeLink, Target: "x"}}, make([]attrs.Attr, 257)} {
		for i := range x {
			if x[i].Node == 0 {
				x[i].Node = api.NodeFile
			}
		}
		s, e := attrs.Stream(x)
		if e != api.OK {
			panic(e)
		}
		l = append(l, s)
	}
	return l
}

func badStreams() []string {
	l := []string{"", "\x00", "\x01", "\x01\x00", "x", strings.Repeat("\x00", 100), strings.Repeat("\xff", 100)}
	for _, s := range goodStreams() {
		l = append(l, s+"\x00", s[:len(s)-1], s[1:])
	}
	return l
}

func short(s string) string {
	if len(s) > 100 {
		return hex.EncodeToString([]byte(s[:100])) + ".."
	}
	return hex.EncodeToString([]byte(s))
}

// checkPut asks what a Put call has answered.
func checkPut(t *testing.T, what string, got string, e api.Errno, want string) {
	t.Helper()
	if got != want || e != api.OK {
		t.Errorf("%s: %s, %v; want %s", what, short(got), e, short(want))
	}
}

func checkUnput(t *testing.T, what string, got string, e api.Errno) {
	t.Helper()
	if got != "" || e != api.ErrArg {
		t.Errorf("%s: %s, %v; want ErrArg", what, short(got), e)
	}
}

func putList(t *testing.T, l []item) string {
	t.Helper()
	s, e := object.PutList(l)
	if e != api.OK {
		t.Fatalf("PutList of %d: %v", len(l), e)
	}
	return s
}

// checkRead asks all that reads a payload for what the chapter's words say of it.
func checkRead(t *testing.T, s string) {
	t.Helper()
	checkReadList(t, s)
	checkReadTree(t, s)
	checkReadCommit(t, s)
	for kind := range uint8(7) {
		checkRefs(t, kind, s)
	}
}

func checkReadList(t *testing.T, s string) {
	t.Helper()
	l, e := object.ReadList(s)
	want, ok := plainList(s)
	if ok && (!slices.Equal(l, want) || e != api.OK) {
		t.Errorf("ReadList(%s): %d items, %v; want %d", short(s), len(l), e, len(want))
	}
	if !ok && (len(l) != 0 || e != api.ErrForm) {
		t.Errorf("ReadList(%s): %d items, %v; want ErrForm", short(s), len(l), e)
	}
}

func checkReadTree(t *testing.T, s string) {
	t.Helper()
	x, e := object.ReadTree(s)
	want, ok := plainTree(s)
	if ok && (!sameTree(x, want) || e != api.OK) {
		t.Errorf("ReadTree(%s): %d entries, %v; want %d", short(s), len(x.Entries), e, len(want.Entries))
	}
	if !ok && (x.Attrs != api.Id{} || len(x.Entries) != 0 || e != api.ErrForm) {
		t.Errorf("ReadTree(%s): %d entries, %v; want ErrForm", short(s), len(x.Entries), e)
	}
}

func checkReadCommit(t *testing.T, s string) {
	t.Helper()
	c, e := object.ReadCommit(s)
	want, ok := plainCommit(s)
	if ok && (c != want || e != api.OK) {
		t.Errorf("ReadCommit(%s): %+v, %v; want %+v", short(s), c, e, want)
	}
	if !ok && (c != commit{} || e != api.ErrForm) {
		t.Errorf("ReadCommit(%s): %+v, %v; want ErrForm", short(s), c, e)
	}
}

func checkRefs(t *testing.T, kind uint8, s string) {
	t.Helper()
	l, e := object.Refs(pack.Object{Kind: kind, Payload: s})
	if want, wantE := refsOf(kind, s); !slices.Equal(l, want) || e != wantE {
		t.Errorf("Refs of kind %d, %s: %d, %v; want %d, %v", kind, short(s), len(l), e, len(want), wantE)
	}
}

// The chapter's examples, row by row.

func TestExampleCommit(t *testing.T) {
	s, e := object.PutCommit(commit{First: true, Tick: 300, Note: "x"})
	checkPut(t, "PutCommit", s, e, strings.Repeat("\x00", 32)+"\x00"+"\xac\x02"+"\x01x")
}

func TestExampleRefused(t *testing.T) {
	s, e := object.PutTree(tree{Entries: []entry{link("b"), link("a")}})
	checkUnput(t, "PutTree of b a", s, e)
	s, e = object.PutList([]item{blob(1)})
	checkUnput(t, "PutList of one", s, e)
	s, e = object.PutCommit(commit{First: true, Parent: api.Id{1}})
	checkUnput(t, "PutCommit with First and a Parent", s, e)
}

func TestExampleRefs(t *testing.T) {
	s, e := object.PutTree(tree{Attrs: api.Id{9}, Entries: []entry{file("a", item{1, 5, api.Id{8}}), link("b")}})
	if e != api.OK {
		t.Fatalf("PutTree: %v", e)
	}
	for i, x := range []struct {
		o    pack.Object
		want []ref
		e    api.Errno
	}{
		{pack.Object{Kind: api.KindTree, Payload: s}, []ref{{api.KindAttrs, api.Id{9}}, {api.KindBlob, api.Id{8}}}, api.OK},
		{pack.Object{Kind: api.KindBlob, Payload: "x"}, nil, api.OK},
		{pack.Object{Kind: 9}, nil, api.ErrKind},
		{pack.Object{Kind: api.KindCommit}, nil, api.ErrForm},
	} {
		if l, e := object.Refs(x.o); !slices.Equal(l, x.want) || e != x.e {
			t.Errorf("row %d: %v, %v", i, l, e)
		}
	}
}

// P12.1

func TestLimits(t *testing.T) {
	if object.MaxKids != 1024 || object.MaxNote != 4096 {
		t.Errorf("MaxKids %d, MaxNote %d", object.MaxKids, object.MaxNote)
	}
}

func TestPayloadsByHand(t *testing.T) {
	one, two := strings.Repeat("\x11", 32), strings.Repeat("\x22", 32)
	var a, b api.Id
	copy(a[:], one)
	copy(b[:], two)
	s, e := object.PutList([]item{{api.KindBlob, 300, a}, {api.KindList, 2, b}})
	checkPut(t, "PutList", s, e, "\x02"+"\x01\xac\x02"+one+"\x02\x02"+two)
	s, e = object.PutTree(tree{Attrs: a, Entries: []entry{{"a", api.NodeFile, item{api.KindList, 128, b}}, {"é", api.NodeFolder, item{api.KindTree, 0, a}}, {"日", api.NodeLink, item{}}}})
	checkPut(t, "PutTree", s, e, one+"\x03"+"\x01a\x01\x02\x80\x01"+two+"\x02é\x02"+one+"\x03日\x03")
	s, e = object.PutTree(tree{Attrs: b})
	checkPut(t, "PutTree of no entries", s, e, two+"\x00")
	s, e = object.PutCommit(commit{Tree: a, Parent: b, Tick: 5, Note: "ab"})
	checkPut(t, "PutCommit", s, e, one+"\x01"+two+"\x05\x02ab")
	s, e = object.PutCommit(commit{Tree: b, First: true})
	checkPut(t, "PutCommit of the first", s, e, two+"\x00\x00\x00")
}

func TestLists(t *testing.T) {
	for i, l := range goodLists() {
		s, e := object.PutList(l)
		checkPut(t, "list "+strconv.Itoa(i), s, e, listBytes(l))
		if back, e := object.ReadList(s); !slices.Equal(back, l) || e != api.OK {
			t.Errorf("list %d: read as %d items, %v", i, len(back), e)
		}
		checkRead(t, s)
	}
	for i, l := range badLists() {
		s, e := object.PutList(l)
		checkUnput(t, "bad list "+strconv.Itoa(i), s, e)
		if back, e := object.ReadList(listBytes(l)); len(back) != 0 || e != api.ErrForm {
			t.Errorf("bad list %d: read as %d items, %v", i, len(back), e)
		}
		checkRead(t, listBytes(l))
	}
}

func TestTrees(t *testing.T) {
	for i, x := range goodTrees() {
		s, e := object.PutTree(x)
		checkPut(t, "tree "+strconv.Itoa(i), s, e, treeBytes(x))
		if back, e := object.ReadTree(s); !sameTree(back, x) || e != api.OK {
			t.Errorf("tree %d: read as %d entries, %v", i, len(back.Entries), e)
		}
		checkRead(t, s)
	}
	for i, x := range badTrees() {
		s, e := object.PutTree(x)
		checkUnput(t, "bad tree "+strconv.Itoa(i), s, e)
		if back, e := object.ReadTree(treeBytes(x)); !sameTree(back, tree{}) || e != api.ErrForm {
			t.Errorf("bad tree %d: read as %d entries, %v", i, len(back.Entries), e)
		}
		checkRead(t, treeBytes(x))
	}
	for i, x := range hiddenBadTrees() {
		s, e := object.PutTree(x)
		checkUnput(t, "hidden bad tree "+strconv.Itoa(i), s, e)
	}
}

func TestCommits(t *testing.T) {
	for i, c := range goodCommits() {
		s, e := object.PutCommit(c)
		checkPut(t, "commit "+strconv.Itoa(i), s, e, commitBytes(c))
		if back, e := object.ReadCommit(s); back != c || e != api.OK {
			t.Errorf("commit %d: read as %+v, %v", i, back, e)
		}
		checkRead(t, s)
	}
	for i, c := range badCommits() {
		s, e := object.PutCommit(c)
		checkUnput(t, "bad commit "+strconv.Itoa(i), s, e)
		if back, e := object.ReadCommit(commitBytes(c)); back != (commit{}) || e != api.ErrForm {
			t.Errorf("bad commit %d: read as %+v, %v", i, back, e)
		}
		checkRead(t, commitBytes(c))
	}
}

func TestCommitFirstWithParent(t *testing.T) {
	for at := range 32 {
		c := commit{First: true}
		c.Parent[at] = 1
		s, e := object.PutCommit(c)
		checkUnput(t, "a parent's byte "+strconv.Itoa(at), s, e)
	}
}

// smallPayloads are some of each kind, of no more bytes than that each of them can be changed.
func smallPayloads() []string {
	var l []string
	for _, x := range goodLists() {
		l = append(l, listBytes(x))
	}
	for _, x := range goodTrees() {
		l = append(l, treeBytes(x))
	}
	for _, x := range goodCommits() {
		l = append(l, commitBytes(x))
	}
	return slices.DeleteFunc(l, func(s string) bool { return len(s) > 300 })
}

func TestPayloadsCutAndGoneOnWith(t *testing.T) {
	for _, s := range append(smallPayloads(), "", "\x00", strings.Repeat("\x00", 1000), strings.Repeat("\xff", 1000), strings.Repeat("\x01", 1000)) {
		for cut := range len(s) {
			checkRead(t, s[:cut])
			checkRead(t, s[cut:])
		}
		for _, behind := range []string{"\x00", "x", "\xff", s} {
			checkRead(t, s+behind)
			checkRead(t, behind+s)
		}
	}
}

func TestPayloadsWithOneByteOfAllOthers(t *testing.T) {
	for _, s := range []string{
		listBytes([]item{blob(1), list(300)}), commitBytes(commit{Tree: id(1), Parent: id(2), Tick: 300, Note: "ab"}), commitBytes(commit{First: true, Tick: 1, Note: "x"}),
		treeBytes(treeOf(file("a", blob(300)), file("b", list(2)), folder("c"), link("d"))),
	} {
		for at := range len(s) {
			for turn := 1; turn < 256; turn++ {
				b := []byte(s)
				b[at] ^= byte(turn)
				checkRead(t, string(b))
			}
		}
	}
}

// Numbers in other forms than their one: with noughts ahead, or above 64 bits.
func TestNumbersInOtherForms(t *testing.T) {
	i := idBytes(1)
	name := strings.Repeat("\x00", 32)
	for _, x := range []struct{ s, form string }{
		{"\x02", "\x82\x00"}, {"\x02", "\x82\x80\x00"}, {"\x02", "\x82\x80\x80\x80\x80\x80\x80\x80\x80\x02"}, {"\x02", "\x82\x80\x80\x80\x80\x80\x80\x80\x80\x80\x00"},
	} {
		for j, f := range []func(n string) string{
			func(n string) string { return n + "\x01\x01" + i + "\x01\x01" + i },
			func(n string) string { return "\x02\x01" + n + i + "\x01\x01" + i },
			func(n string) string { return name + n + "\x01a\x03\x01b\x03" },
			func(n string) string { return name + "\x01" + n + "ab\x03" },
			func(n string) string { return name + "\x01\x01a\x01\x01" + n + i },
			func(n string) string { return name + "\x00" + n + "\x00" },
			func(n string) string { return name + "\x00\x00" + n + "ab" },
		} {
			kind := []uint8{2, 2, 3, 3, 3, 5, 5}[j]
			if _, e := object.Refs(pack.Object{Kind: kind, Payload: f(x.s)}); e != api.OK {
				t.Errorf("form %d of kind %d: %v", j, kind, e)
			}
			if l, e := object.Refs(pack.Object{Kind: kind, Payload: f(x.form)}); len(l) != 0 || e != api.ErrForm {
				t.Errorf("form %d of kind %d with %s: %d, %v; want ErrForm", j, kind, short(x.form), len(l), e)
			}
			checkRead(t, f(x.form))
		}
	}
}

// Numbers that say far more than there is, or than a type holds.
func TestGreatNumbers(t *testing.T) {
	i := idBytes(1)
	name := strings.Repeat("\x00", 32)
	for _, n := range []uint64{1 << 20, 1<<20 + 1, 1<<31 - 1, 1 << 31, 1<<32 + 1, 1<<32 + 2, 1 << 40, 1<<40 + 1, math.MaxInt64, math.MaxInt64 + 1, math.MaxInt64 + 2, math.MaxUint64 - 1, math.MaxUint64} {
		for _, s := range []string{
			number(n), number(n) + "\x01\x01" + i + "\x01\x01" + i, "\x02\x01" + number(n) + i + "\x01\x01" + i, "\x02\x02" + number(n) + i + "\x01\x01" + i, "\x02\x01" + number(n) + i + "\x01" + number(-n) + i, "\x02\x01" + number(n) + i + "\x01" + number(2-n) + i,
			name + number(n), name + number(n) + "\x01a\x03", name + "\x01" + number(n) + "a\x03", name + "\x01\x01a\x01\x01" + number(n) + i, name + "\x01\x01a\x01\x02" + number(n) + i,
			name + "\x00" + number(n) + "\x00", name + "\x01" + i + number(n) + "\x00", name + "\x00\x00" + number(n), name + "\x00\x00" + number(n) + "x",
		} {
			checkRead(t, s)
		}
	}
}

// P12.4

func TestOneForm(t *testing.T) {
	r := rand.New(rand.NewSource(1))
	for range 3000 {
		l, x, c := anyList(r), anyTree(r), anyCommit(r)
		s, e := object.PutList(l)
		checkPut(t, "a list", s, e, listBytes(l))
		checkRead(t, s)
		s, e = object.PutTree(x)
		checkPut(t, "a tree", s, e, treeBytes(x))
		checkRead(t, s)
		s, e = object.PutCommit(c)
		checkPut(t, "a commit", s, e, commitBytes(c))
		checkRead(t, s)
	}
}

// checkPutAgain asks whether what a payload was read as is put as these bytes, and tells how many kinds it is a payload of.
func checkPutAgain(t *testing.T, s string) (kinds int) {
	t.Helper()
	if l, e := object.ReadList(s); e == api.OK {
		again, e := object.PutList(l)
		checkPut(t, "a list read", again, e, s)
		kinds++
	}
	if x, e := object.ReadTree(s); e == api.OK {
		again, e := object.PutTree(x)
		checkPut(t, "a tree read", again, e, s)
		kinds++
	}
	if c, e := object.ReadCommit(s); e == api.OK {
		again, e := object.PutCommit(c)
		checkPut(t, "a commit read", again, e, s)
		kinds++
	}
	return kinds
}

// changed is a payload anyhow changed.
func changed(r *rand.Rand, s string) string {
	b := []byte(s)
	for range r.Intn(3) {
		at, end := r.Intn(len(b)), r.Intn(len(b)+1)
		switch r.Intn(5) {
		case 0:
			b[at] = byte(r.Intn(4))
		case 1:
			b[at] = byte(r.Intn(256))
		case 2:
			b = slices.Insert(b, at, byte(r.Intn(256)))
		case 3:
			b = slices.Concat(b[:at], b[min(at+1, len(b)-1):])
		case 4:
			b = slices.Concat(b[:min(at, end)], b[max(at, end):], b[min(at, end):max(at, end)])
		}
	}
	return string(b)
}

func TestPayloadsAnyhowChanged(t *testing.T) {
	r := rand.New(rand.NewSource(2))
	payloads := 0
	for range 20000 {
		s := changed(r, []string{listBytes(anyList(r)), treeBytes(anyTree(r)), commitBytes(anyCommit(r))}[r.Intn(3)])
		checkRead(t, s)
		payloads += checkPutAgain(t, s)
	}
	if payloads < 5000 || payloads > 18000 {
		t.Errorf("%d of them are payloads", payloads)
	}
}

// P12.2

func TestRefsByHand(t *testing.T) {
	a, b := id(1), id(2)
	for i, x := range []struct {
		kind uint8
		s    string
		want []ref
	}{
		{2, listBytes([]item{{1, 5, b}, {2, 5, a}}), []ref{{1, b}, {2, a}}}, {2, listBytes([]item{{1, 5, a}, {1, 5, a}, {1, 6, a}}), []ref{{1, a}, {1, a}, {1, a}}},
		{3, treeBytes(tree{Attrs: a}), []ref{{4, a}}}, {3, treeBytes(tree{}), []ref{{4, api.Id{}}}}, {3, treeBytes(tree{a, []entry{link("a"), link("b")}}), []ref{{4, a}}},
		{3, treeBytes(tree{a, []entry{{"a", 2, item{3, 0, b}}, link("b"), {"c", 1, item{2, 9, a}}, {"d", 1, item{1, 0, b}}, {"e", 2, item{3, 0, b}}}}), []ref{{4, a}, {3, b}, {2, a}, {1, b}, {3, b}}},
		{5, commitBytes(commit{Tree: a, First: true}), []ref{{3, a}}}, {5, commitBytes(commit{Tree: a, Parent: b}), []ref{{3, a}, {5, b}}}, {5, commitBytes(commit{}), []ref{{3, api.Id{}}, {5, api.Id{}}}},
		{1, "", nil}, {1, "x", nil}, {1, listBytes([]item{{1, 5, b}, {2, 5, a}}), nil}, {4, goodStreams()[0], nil}, {4, goodStreams()[1], nil}, {4, goodStreams()[2], nil},
	} {
		if l, e := object.Refs(pack.Object{Kind: x.kind, Payload: x.s}); !slices.Equal(l, x.want) || e != api.OK {
			t.Errorf("row %d: %v, %v; want %v", i, l, e, x.want)
		}
	}
}

func TestRefsOfEachKind(t *testing.T) {
	payloads := append(smallPayloads(), "", "\x00", strings.Repeat("x", 1<<21+1))
	payloads = append(payloads, goodStreams()...)
	payloads = append(payloads, badStreams()...)
	for kind := range 256 {
		for _, s := range payloads {
			if kind < 10 || kind > 250 || len(s) < 50 {
				checkRefs(t, uint8(kind), s)
			}
		}
	}
}

func TestRefsOfAttrs(t *testing.T) {
	for i, s := range goodStreams() {
		if l, e := object.Refs(pack.Object{Kind: api.KindAttrs, Payload: s}); len(l) != 0 || e != api.OK {
			t.Errorf("stream %d: %d, %v", i, len(l), e)
		}
	}
	for i, s := range badStreams() {
		if l, e := object.Refs(pack.Object{Kind: api.KindAttrs, Payload: s}); len(l) != 0 || e != api.ErrForm {
			t.Errorf("bad stream %d: %d, %v; want ErrForm", i, len(l), e)
		}
	}
}

// Of attrs the chapter asks a stream, and of blobs alone how many bytes there are.
func TestRefsOfAttrsAboveMaxPayload(t *testing.T) {
	a := attrs.Attr{Node: api.NodeFile}
	for i := range 16 {
		a.Xattrs = append(a.Xattrs, attrs.Xattr{Name: string(rune('a' + i)), Value: strings.Repeat("v", 4096)})
	}
	s, e := attrs.Stream(slices.Repeat([]attrs.Attr{a}, 40))
	if e != api.OK || len(s) <= 1<<21 {
		t.Fatalf("the stream has %d bytes, %v", len(s), e)
	}
	if l, e := object.Refs(pack.Object{Kind: api.KindAttrs, Payload: s}); len(l) != 0 || e != api.OK {
		t.Errorf("Refs: %d, %v", len(l), e)
	}
}

func TestRefsOfBlobs(t *testing.T) {
	for _, n := range []int{0, 1, 32, 1 << 20, 1<<20 + 1, 1<<21 - 1, 1 << 21} {
		if l, e := object.Refs(pack.Object{Kind: api.KindBlob, Payload: strings.Repeat("\x02", n)}); len(l) != 0 || e != api.OK {
			t.Errorf("a blob of %d bytes: %d, %v", n, len(l), e)
		}
	}
	for _, n := range []int{1<<21 + 1, 1 << 22} {
		if l, e := object.Refs(pack.Object{Kind: api.KindBlob, Payload: strings.Repeat("\x02", n)}); len(l) != 0 || e != api.ErrForm {
			t.Errorf("a blob of %d bytes: %d, %v; want ErrForm", n, len(l), e)
		}
	}
}

// R2 and R3

func TestListsAreLeftAsTheyWere(t *testing.T) {
	room := []item{blob(1), list(2), {9, -1, id(1)}, blob(3)}
	was := slices.Clone(room)
	s := putList(t, room[:2])
	if s != listBytes(was[:2]) || !slices.Equal(room, was) {
		t.Errorf("PutList reads or writes behind the list's end: %s, %v", short(s), room)
	}
	room[0].Size = 77
	if s != listBytes(was[:2]) {
		t.Error("PutList keeps the list")
	}
	entries := []entry{link("a"), folder("b"), link("a"), {"", 9, blob(-1)}}
	wasEntries := slices.Clone(entries)
	s, e := object.PutTree(tree{id(1), entries[:2]})
	if s != treeBytes(tree{id(1), wasEntries[:2]}) || e != api.OK || !slices.Equal(entries, wasEntries) {
		t.Errorf("PutTree reads or writes behind the list's end: %s, %v, %v", short(s), e, entries)
	}
}

func TestAnswersAreApart(t *testing.T) {
	l, x := items(5, 3), treeOf(file("a", blob(5)), folder("b"), link("c"))
	s, u := listBytes(l), treeBytes(x)
	got, _ := object.ReadList(s)
	gotTree, _ := object.ReadTree(u)
	refs, _ := object.Refs(pack.Object{Kind: api.KindList, Payload: s})
	for _, i := range got[len(got):cap(got)] {
		if i != (item{}) {
			t.Errorf("behind a list stands %+v", i)
		}
	}
	for _, n := range gotTree.Entries[len(gotTree.Entries):cap(gotTree.Entries)] {
		if n != (entry{}) {
			t.Errorf("behind a tree's entries stands %+v", n)
		}
	}
	for _, r := range refs[len(refs):cap(refs)] {
		if r != (ref{}) {
			t.Errorf("behind refs stands %+v", r)
		}
	}
	clear(got[:cap(got)])
	clear(gotTree.Entries[:cap(gotTree.Entries)])
	clear(refs[:cap(refs)])
	checkRead(t, s)
	checkRead(t, u)
}

// Whatever the bytes: what is read of them, and what Refs answers, is what the chapter's words say.
func FuzzAnyBytes(f *testing.F) {
	for _, s := range smallPayloads() {
		f.Add([]byte(s), uint8(2))
	}
	for _, s := range badStreams() {
		f.Add([]byte(s), uint8(4))
	}
	f.Fuzz(func(t *testing.T, data []byte, kind uint8) {
		checkRead(t, string(data))
		checkRefs(t, kind, string(data))
		checkPutAgain(t, string(data))
	})
}

package source_test

import (
	"slices"
	"strconv"
	"strings"
	"testing"

	"muniment/api"
	"muniment/attrs"
	"muniment/source"
)

type (
	attr  = attrs.Attr
	xattr = attrs.Xattr
	stat  = source.Stat
	node  = source.Node
)

func is(t *testing.T, what string, e, want api.Errno) {
	t.Helper()
	if e != want {
		t.Errorf("%s: %v, want %v", what, e, want)
	}
}

// must fails where a call that has to succeed, to come to what is asked, does not.
func must(t *testing.T, l ...api.Errno) {
	t.Helper()
	for i, e := range l {
		if e != api.OK {
			t.Fatalf("step %d: %v", i, e)
		}
	}
}

func checkStat(t *testing.T, s *source.Tree, path string, want stat) {
	t.Helper()
	if x, e := s.Stat(path); x != want || e != api.OK {
		t.Errorf("Stat(%s): %v, %v; want %v", path, x, e, want)
	}
}

func checkRead(t *testing.T, s *source.Tree, path, want string) {
	t.Helper()
	if x, e := s.Read(path); x != want || e != api.OK {
		t.Errorf("Read(%s): %d bytes, %v; want %d", path, len(x), e, len(want))
	}
}

func checkList(t *testing.T, s *source.Tree, path string, want ...string) {
	t.Helper()
	if l, e := s.List(path); !slices.Equal(l, want) || e != api.OK {
		t.Errorf("List(%s): %q, %v; want %q", path, l, e, want)
	}
}

func checkAttrs(t *testing.T, s *source.Tree, path string, want attr) {
	t.Helper()
	if x, e := s.Attrs(path); !attrs.Same(x, want) || e != api.OK {
		t.Errorf("Attrs(%s): %v, %v; want %v", path, x, e, want)
	}
}

func sameNode(a, b node) bool {
	return a.Path == b.Path && attrs.Same(a.Attr, b.Attr) && a.Data == b.Data && a.Ino == b.Ino && a.Tick == b.Tick
}

func checkValue(t *testing.T, what string, s *source.Tree, want []node) {
	t.Helper()
	l := s.Value()
	if slices.EqualFunc(l, want, sameNode) {
		return
	}
	for i := range min(len(l), len(want)) {
		if !sameNode(l[i], want[i]) {
			t.Errorf("%s: node %d is %.300v, want %.300v", what, i, l[i], want[i])
			return
		}
	}
	t.Errorf("%s: %d nodes, want %d", what, len(l), len(want))
}

// paths are those of all nodes, in their order.
func paths(s *source.Tree) []string {
	var l []string
	for _, n := range s.Value() {
		l = append(l, n.Path)
	}
	return l
}

func numbered(first, behind int) []string {
	var l []string
	for i := first; i < behind; i++ {
		l = append(l, strconv.Itoa(i))
	}
	return l
}

// fill makes files in a folder until it has so many entries.
func fill(t *testing.T, s *source.Tree, path string, most int) {
	t.Helper()
	x, e := s.Stat(path)
	must(t, e)
	for _, name := range numbered(x.Size, most) {
		must(t, s.File(strings.TrimSuffix(path, "/")+"/n"+name, "", attr{}))
	}
}

// chain makes a folder within a folder, down to that depth, and is the last one's path.
func chain(t *testing.T, s *source.Tree, depth int) string {
	t.Helper()
	path := ""
	for _, name := range numbered(1, depth+1) {
		path += "/" + name
		must(t, s.Folder(path, attr{}))
	}
	return path
}

func TestNew(t *testing.T) {
	s := source.New()
	checkValue(t, "a new tree", s, []node{{Path: "/", Attr: attr{Node: api.NodeFolder, Mode: 0o755}, Ino: 1}})
	checkStat(t, s, "/", stat{Node: api.NodeFolder, Ino: 1})
	checkList(t, s, "/")
	if s.Now() != 0 || s.Reads() != 0 {
		t.Errorf("a new tree: Now %d, Reads %d", s.Now(), s.Reads())
	}
}

func TestExamples(t *testing.T) {
	s := source.New()
	is(t, "Folder(/a)", s.Folder("/a", attr{Mode: 0o700}), api.OK)
	is(t, "File(/a/f)", s.File("/a/f", "xyz", attr{}), api.OK)
	is(t, "File(/a/f) again", s.File("/a/f", "", attr{}), api.ErrThere)
	is(t, "File(/b/f)", s.File("/b/f", "", attr{}), api.ErrNone)
	is(t, "File(/a/f/g)", s.File("/a/f/g", "", attr{}), api.ErrKind)
	checkStat(t, s, "/a/f", stat{api.NodeFile, 3, 3, 2})
	checkStat(t, s, "/a", stat{api.NodeFolder, 1, 2, 2})
	checkStat(t, s, "/", stat{api.NodeFolder, 1, 1, 1})
	is(t, "Write(/a/f)", s.Write("/a/f", "xyz"), api.OK)
	checkStat(t, s, "/a/f", stat{api.NodeFile, 3, 3, 3})
	checkRead(t, s, "/a/f", "xyz")
	if s.Reads() != 1 || s.Now() != 3 {
		t.Errorf("Reads %d, Now %d; want 1, 3", s.Reads(), s.Now())
	}
	is(t, "Move(/a, /a/b)", s.Move("/a", "/a/b"), api.ErrArg)
	is(t, "Move(/a, /c)", s.Move("/a", "/c"), api.OK)
	checkList(t, s, "/", "c")
	checkStat(t, s, "/c/f", stat{api.NodeFile, 3, 3, 3})
	is(t, "Xattr(/c, user.x)", s.Xattr("/c", "user.x", "1"), api.OK)
	is(t, "Xattr(/c, no name)", s.Xattr("/c", "", "1"), api.ErrArg)
	is(t, "Clear(/c, user.y)", s.Clear("/c", "user.y"), api.ErrNone)
	is(t, "Drop(/c)", s.Drop("/c"), api.OK)
	is(t, "File(/c)", s.File("/c", "", attr{}), api.OK)
	checkStat(t, s, "/c", stat{api.NodeFile, 0, 4, 7})
}

func TestNewNodes(t *testing.T) {
	s := source.New()
	a := attr{Node: 77, Mode: 0o4711, Uid: 1<<32 - 1, Gid: 7, Mtime: api.MaxTick, Target: "not one\x00", Xattrs: pairs("a", "1", "b", "")}
	as := func(kind uint8, target string) attr {
		b := a
		b.Node, b.Target = kind, target
		return b
	}
	must(t, s.Folder("/d", a), s.File("/d/f", "bytes\x00\xff", a), s.Link("/d/l", "../é\xff", a), s.File("/e", "", attr{Node: api.NodeLink}))
	checkValue(t, "new nodes", s, []node{
		{"/", attr{Node: api.NodeFolder, Mode: 0o755}, "", 1, 4},
		{"/d", as(api.NodeFolder, ""), "", 2, 3},
		{"/d/f", as(api.NodeFile, ""), "bytes\x00\xff", 3, 2},
		{"/d/l", as(api.NodeLink, "../é\xff"), "", 4, 3},
		{"/e", attr{Node: api.NodeFile}, "", 5, 4},
	})
	checkStat(t, s, "/", stat{api.NodeFolder, 2, 1, 4})
	checkStat(t, s, "/d", stat{api.NodeFolder, 2, 2, 3})
	checkStat(t, s, "/d/f", stat{api.NodeFile, 7, 3, 2})
	checkStat(t, s, "/d/l", stat{api.NodeLink, 6, 4, 3})
	checkAttrs(t, s, "/d/l", as(api.NodeLink, "../é\xff"))
	checkList(t, s, "/d", "f", "l")
}

func TestChangesOfOneNode(t *testing.T) {
	s := source.New()
	must(t, s.Folder("/d", attr{}), s.File("/d/f", "a", attr{Mode: 1}), s.Link("/d/l", "to", attr{}))
	must(t, s.Write("/d/f", "other"))
	checkStat(t, s, "/d/f", stat{api.NodeFile, 5, 3, 4})
	checkRead(t, s, "/d/f", "other")
	must(t, s.Write("/d/f", "other"))
	checkStat(t, s, "/d/f", stat{api.NodeFile, 5, 3, 5})
	must(t, s.Attr("/d/f", attr{Node: api.NodeLink, Target: "x", Uid: 5, Xattrs: pairs("m", "1")}))
	checkAttrs(t, s, "/d/f", attr{Node: api.NodeFile, Uid: 5, Xattrs: pairs("m", "1")})
	checkRead(t, s, "/d/f", "other")
	must(t, s.Attr("/d/l", attr{Node: api.NodeFile, Target: "other", Gid: 6}))
	checkAttrs(t, s, "/d/l", attr{Node: api.NodeLink, Gid: 6, Target: "to"})
	must(t, s.Attr("/", attr{Mode: 0o700}))
	must(t, s.Xattr("/d/f", "z", "2"), s.Xattr("/d/f", "a", "3"), s.Xattr("/d/f", "n", "4"), s.Xattr("/d/f", "m", "5"))
	checkAttrs(t, s, "/d/f", attr{Node: api.NodeFile, Uid: 5, Xattrs: pairs("a", "3", "m", "5", "n", "4", "z", "2")})
	must(t, s.Clear("/d/f", "m"), s.Clear("/d/f", "z"))
	checkAttrs(t, s, "/d/f", attr{Node: api.NodeFile, Uid: 5, Xattrs: pairs("a", "3", "n", "4")})
	must(t, s.Clear("/d/f", "a"), s.Clear("/d/f", "n"))
	checkAttrs(t, s, "/d/f", attr{Node: api.NodeFile, Uid: 5})
	is(t, "Clear of what is gone", s.Clear("/d/f", "n"), api.ErrNone)
	checkStat(t, s, "/", stat{api.NodeFolder, 1, 1, 8})
	checkStat(t, s, "/d", stat{api.NodeFolder, 2, 2, 3})
	checkStat(t, s, "/d/f", stat{api.NodeFile, 5, 3, 16})
	checkStat(t, s, "/d/l", stat{api.NodeLink, 2, 4, 7})
	must(t, s.Xattr("/", "r", "6"), s.Xattr("/d", "r", ""), s.Xattr("/d/l", "r", "8"))
	checkAttrs(t, s, "/", attr{Node: api.NodeFolder, Mode: 0o700, Xattrs: pairs("r", "6")})
	checkAttrs(t, s, "/d", attr{Node: api.NodeFolder, Xattrs: pairs("r", "")})
	checkAttrs(t, s, "/d/l", attr{Node: api.NodeLink, Gid: 6, Target: "to", Xattrs: pairs("r", "8")})
	checkStat(t, s, "/d/l", stat{api.NodeLink, 2, 4, 19})
}

func TestMoveAndDrop(t *testing.T) {
	s := source.New()
	must(t, s.Folder("/a", attr{}), s.Folder("/a/b", attr{Uid: 1}), s.File("/a/b/f", "f", attr{}), s.Folder("/c", attr{}), s.File("/c/g", "g", attr{}))
	must(t, s.Move("/a/b", "/c/d"))
	checkValue(t, "from folder to folder", s, []node{
		{"/", attr{Node: api.NodeFolder, Mode: 0o755}, "", 1, 4},
		{"/a", attr{Node: api.NodeFolder}, "", 2, 6},
		{"/c", attr{Node: api.NodeFolder}, "", 5, 6},
		{"/c/d", attr{Node: api.NodeFolder, Uid: 1}, "", 3, 3},
		{"/c/d/f", attr{Node: api.NodeFile}, "f", 4, 3},
		{"/c/g", attr{Node: api.NodeFile}, "g", 6, 5},
	})
	must(t, s.Move("/c/g", "/c/h"))
	checkStat(t, s, "/c", stat{api.NodeFolder, 2, 5, 7})
	checkStat(t, s, "/c/h", stat{api.NodeFile, 1, 6, 5})
	must(t, s.Move("/c/d/f", "/f"))
	checkStat(t, s, "/", stat{api.NodeFolder, 3, 1, 8})
	checkStat(t, s, "/c", stat{api.NodeFolder, 2, 5, 7})
	checkStat(t, s, "/c/d", stat{api.NodeFolder, 0, 3, 8})
	must(t, s.Drop("/c"))
	checkValue(t, "with a folder gone", s, []node{
		{"/", attr{Node: api.NodeFolder, Mode: 0o755}, "", 1, 9},
		{"/a", attr{Node: api.NodeFolder}, "", 2, 6},
		{"/f", attr{Node: api.NodeFile}, "f", 4, 3},
	})
	must(t, s.Drop("/f"), s.Drop("/a"))
	checkList(t, s, "/")
	must(t, s.Folder("/c", attr{}))
	checkStat(t, s, "/c", stat{api.NodeFolder, 0, 7, 12})
	checkList(t, s, "/c")
}

func TestMovedThereAndBack(t *testing.T) {
	s := source.New()
	must(t, s.Folder("/a", attr{}), s.Folder("/a/b", attr{Uid: 1}), s.File("/a/b/f", "f", attr{}), s.Link("/a/b/l", "t", attr{}), s.Folder("/c", attr{}))
	was := s.Value()
	must(t, s.Move("/a/b", "/c/x"), s.Move("/c/x", "/a/b"))
	for i := range was {
		if was[i].Path == "/a" || was[i].Path == "/c" {
			was[i].Tick = 7
		}
	}
	checkValue(t, "there and back", s, was)
}

// TestOrder has names that stand otherwise as texts of paths, where a / is a byte like others.
func TestOrder(t *testing.T) {
	s := source.New()
	for _, path := range []string{"/a", "/a/z", "/a-", "/a b", "/a.txt", "/é", "/B", "/a/z/-", "/a-/0", "/\U0001F600", "/\uffff", "/a/z-"} {
		must(t, s.Folder(path, attr{}))
	}
	want := []string{"/", "/B", "/a", "/a/z", "/a/z/-", "/a/z-", "/a b", "/a-", "/a-/0", "/a.txt", "/é", "/\uffff", "/\U0001F600"}
	if l := paths(s); !slices.Equal(l, want) {
		t.Errorf("Value's order: %q, want %q", l, want)
	}
	checkList(t, s, "/", "B", "a", "a b", "a-", "a.txt", "é", "\uffff", "\U0001F600")
	checkList(t, s, "/a", "z", "z-")
}

func TestReads(t *testing.T) {
	s := source.New()
	must(t, s.File("/f", "f", attr{}), s.Folder("/d", attr{}), s.Link("/l", "f", attr{}), s.File("/e", "", attr{}))
	checkRead(t, s, "/f", "f")
	for path, want := range map[string]api.Errno{"/d": api.ErrKind, "/l": api.ErrKind, "/": api.ErrKind, "/none": api.ErrNone, "f": api.ErrName, "/f/": api.ErrName, "/f/f": api.ErrNone} {
		x, e := s.Read(path)
		is(t, "Read("+path+")", e, want)
		if x != "" {
			t.Errorf("Read(%s): %q beside an error", path, x)
		}
	}
	s.Value()
	s.Stat("/f")
	s.Attrs("/f")
	checkRead(t, s, "/e", "")
	checkRead(t, s, "/f", "f")
	if s.Reads() != 3 || s.Now() != 4 {
		t.Errorf("Reads %d, Now %d; want 3, 4", s.Reads(), s.Now())
	}
	checkStat(t, s, "/f", stat{api.NodeFile, 1, 2, 1})
}

func TestTwin(t *testing.T) {
	s := source.New()
	must(t, s.Folder("/d", attr{Xattrs: pairs("a", "1")}), s.File("/d/f", "f", attr{}), s.Link("/l", "t", attr{}), s.File("/g", "", attr{}), s.Drop("/g"))
	checkRead(t, s, "/d/f", "f")
	was := s.Value()
	u := s.Twin()
	checkValue(t, "a twin", u, was)
	if u.Now() != 5 || u.Reads() != 1 {
		t.Errorf("a twin: Now %d, Reads %d; want 5, 1", u.Now(), u.Reads())
	}
	must(t, u.Xattr("/d", "a", "2"), u.Write("/d/f", "other"), u.Attr("/l", attr{Uid: 1}), u.File("/d/new", "", attr{}), u.Move("/l", "/m"), u.Xattr("/", "r", ""))
	checkRead(t, u, "/d/f", "other")
	checkValue(t, "behind a twin's changes", s, was)
	if s.Now() != 5 || s.Reads() != 1 {
		t.Errorf("behind a twin's changes: Now %d, Reads %d; want 5, 1", s.Now(), s.Reads())
	}
	theirs := u.Value()
	must(t, s.Drop("/d"), s.Folder("/e", attr{}))
	checkStat(t, s, "/e", stat{api.NodeFolder, 0, 6, 7})
	checkStat(t, u, "/d/new", stat{api.NodeFile, 0, 6, 9})
	checkValue(t, "a twin behind the other's changes", u, theirs)
}

func TestNil(t *testing.T) {
	var s *source.Tree
	x, e1 := s.Stat("x")
	a, e2 := s.Attrs("/")
	l, e3 := s.List("/")
	d, e4 := s.Read("/")
	for i, e := range []api.Errno{
		s.Folder("x", attr{Mode: 1 << 20}), s.File("x", "", attr{}), s.Link("/a", "", attr{}), s.Write("/a", ""), s.Attr("", attr{}),
		s.Xattr("/", "", ""), s.Clear("/", ""), s.Move("x", ""), s.Drop("/"), e1, e2, e3, e4,
	} {
		is(t, "call "+strconv.Itoa(i)+" of no tree", e, api.ErrNil)
	}
	if x != (stat{}) || !attrs.Same(a, attr{}) || l != nil || d != "" {
		t.Errorf("no tree: %v %v %q %q beside errors", x, a, l, d)
	}
	if s.Reads() != 0 || s.Now() != 0 || len(s.Value()) != 0 || s.Twin() != nil {
		t.Errorf("no tree: %d %d %v %v", s.Reads(), s.Now(), s.Value(), s.Twin())
	}
}

// TestMadeOtherwise has a tree that New has not made: nothing is promised of it, but that no call panics.
func TestMadeOtherwise(t *testing.T) {
	s := new(source.Tree)
	for _, path := range []string{"/", "/a", "/a/b", "a"} {
		s.Folder(path, attr{})
		s.File(path, "", attr{})
		s.Link(path, "t", attr{})
		s.Write(path, "")
		s.Attr(path, attr{})
		s.Xattr(path, "a", "")
		s.Clear(path, "a")
		s.Move(path, "/c")
		s.Move("/c", path)
		s.Drop(path)
		s.Stat(path)
		s.Attrs(path)
		s.List(path)
		s.Read(path)
	}
	s.Reads()
	s.Now()
	s.Value()
	s.Twin().Value()
}

// pairs are extended attributes by their names and values.
func pairs(l ...string) []xattr {
	var x []xattr
	for i := 0; i < len(l); i += 2 {
		x = append(x, xattr{Name: l[i], Value: l[i+1]})
	}
	return x
}

// xattrs are n that may be.
func xattrs(n int) []xattr {
	var l []xattr
	for i := range n {
		l = append(l, xattr{Name: string(rune('a' + i)), Value: strings.Repeat("v", i)})
	}
	return l
}

// scribble writes over all of a list, with the room behind its end.
func scribble[T any](l []T, with T) {
	l = l[:cap(l)]
	for i := range l {
		l[i] = with
	}
}

func TestListsHandedIn(t *testing.T) {
	s := source.New()
	room := append(make([]xattr, 0, 8), xattrs(3)...)
	behind := append(room, xattr{Name: "zz", Value: "behind"})
	a := attr{Xattrs: room}
	must(t, s.Folder("/d", a), s.File("/f", "", a), s.Link("/l", "t", a), s.File("/g", "", attr{}), s.Attr("/g", a))
	for _, path := range []string{"/d", "/f", "/l", "/g"} {
		must(t, s.Xattr(path, "aa", "new"), s.Xattr(path, "zz", "new"), s.Xattr(path, "a", "new"), s.Clear(path, "b"))
	}
	if !slices.Equal(room, xattrs(3)) || behind[3] != (xattr{Name: "zz", Value: "behind"}) || a.Node != 0 {
		t.Errorf("what was handed in is now %v", behind)
	}
	must(t, s.Attr("/d", a), s.Attr("/f", a))
	scribble(room, xattr{Name: "/", Value: "scribbled"})
	checkAttrs(t, s, "/d", attr{Node: api.NodeFolder, Xattrs: xattrs(3)})
	checkAttrs(t, s, "/f", attr{Node: api.NodeFile, Xattrs: xattrs(3)})
	checkAttrs(t, s, "/l", attr{Node: api.NodeLink, Target: "t", Xattrs: pairs("a", "new", "aa", "new", "c", "vv", "zz", "new")})
}

func TestListsHandedOut(t *testing.T) {
	s := source.New()
	must(t, s.Folder("/a", attr{Xattrs: xattrs(3)}), s.File("/b", "b", attr{Xattrs: xattrs(2)}), s.Link("/c", "t", attr{Xattrs: xattrs(1)}), s.Xattr("/c", "b", ""), s.Clear("/a", "c"))
	u := s.Twin()
	was := s.Value()
	for _, v := range []*source.Tree{s, u} {
		l := v.Value()
		for i := range l {
			others := v.Value()
			scribble(others[i].Attr.Xattrs, xattr{Name: "x", Value: "scribbled"})
			for j := range others {
				if j != i && !sameNode(others[j], was[j]) {
					t.Errorf("node %d shares a list with node %d", j, i)
				}
			}
		}
		scribble(l, node{Path: "scribbled"})
		for _, path := range []string{"/a", "/b", "/c"} {
			a, _ := v.Attrs(path)
			scribble(a.Xattrs, xattr{Name: "x", Value: "scribbled"})
		}
		names, _ := v.List("/")
		scribble(names, "scribbled")
		checkList(t, v, "/", "a", "b", "c")
	}
	checkValue(t, "a tree whose answers were written over", s, was)
	checkValue(t, "its twin", u, was)
	a, _ := s.Attrs("/a")
	must(t, s.Xattr("/a", "a", "later"), s.Xattr("/a", "0", "later"))
	if !slices.Equal(a.Xattrs, xattrs(2)) {
		t.Errorf("an answer changed with the tree: %v", a.Xattrs)
	}
	checkValue(t, "the twin behind it", u, was)
}

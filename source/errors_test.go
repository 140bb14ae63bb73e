package source_test

import (
	"slices"
	"strings"
	"testing"

	"muniment/api"
	"muniment/attrs"
	"muniment/source"
)

// deep is the path of a chain's folder at that depth.
func deep(depth int) string { return "/" + strings.Join(numbered(1, depth+1), "/") }

// world has one of each thing at which a call may be refused: folders, files, links, a full folder, a full folder 15 names deep, and 16 names.
func world(t *testing.T) *source.Tree {
	t.Helper()
	s := source.New()
	must(t, s.Folder("/d", attr{Xattrs: pairs("x", "1")}), s.File("/d/f", "f", attr{}), s.Folder("/d/e", attr{}), s.Link("/l", "d", attr{}), s.File("/g", "g", attr{}))
	must(t, s.Folder("/full", attr{}))
	fill(t, s, "/full", api.MaxEntries)
	chain(t, s, api.MaxDepth)
	must(t, s.File(deep(14)+"/file", "", attr{}))
	fill(t, s, deep(15), api.MaxEntries)
	return s
}

// checkRefused asks that a call is refused so, tells nothing beside, and changes nothing that a later one tells.
func checkRefused(t *testing.T, s *source.Tree, what string, want api.Errno, call func(s *source.Tree) api.Errno) {
	t.Helper()
	was, now, reads := s.Value(), s.Now(), s.Reads()
	is(t, what, call(s), want)
	checkValue(t, what+", behind it", s, was)
	u := s.Twin()
	must(t, u.Write("/g", "next"), u.Move("/g", "/next"), u.Folder("/g", attr{}))
	before := s.Twin()
	must(t, before.Write("/g", "next"), before.Move("/g", "/next"), before.Folder("/g", attr{}))
	checkValue(t, what+", gone on with", u, before.Value())
	if s.Now() != now || s.Reads() != reads {
		t.Errorf("%s: Now %d, Reads %d behind it; were %d, %d", what, s.Now(), s.Reads(), now, reads)
	}
}

// long has more bytes than a file may.
var long = strings.Repeat("d", api.MaxData+1)

// notPaths are texts that are no path, deep ones among them.
func notPaths() []string {
	return []string{"", "d", "/d/", "//", "/.", "/d/..", "/\xff", "/d\n", deep(16) + "/17", "/" + strings.Repeat("n", 65)}
}

// mayNot are attributes that may not be, whatever the kind.
func mayNot() []attr {
	return []attr{
		{Mode: attrs.MaxMode + 1}, {Mtime: -1}, {Mtime: api.MaxTick + 1}, {Xattrs: xattrs(17)},
		{Xattrs: pairs("", "1")}, {Xattrs: pairs("a/b", "1")}, {Xattrs: pairs("b", "1", "a", "1")}, {Xattrs: pairs("a", "1", "a", "1")},
		{Xattrs: pairs("a", strings.Repeat("v", attrs.MaxValue+1))},
	}
}

func TestNewNodesRefused(t *testing.T) {
	s := world(t)
	last := deep(16)
	calls := map[string]func(s *source.Tree, path string, a attr) api.Errno{
		"Folder": func(s *source.Tree, path string, a attr) api.Errno { return s.Folder(path, a) },
		"File":   func(s *source.Tree, path string, a attr) api.Errno { return s.File(path, "x", a) },
		"Link":   func(s *source.Tree, path string, a attr) api.Errno { return s.Link(path, "x", a) },
	}
	for what, call := range calls {
		ask := func(path string, a attr, want api.Errno) {
			t.Helper()
			checkRefused(t, s, what+"("+path+")", want, func(s *source.Tree) api.Errno { return call(s, path, a) })
		}
		for _, path := range notPaths() {
			ask(path, mayNot()[0], api.ErrName)
		}
		for _, a := range mayNot() {
			for _, path := range []string{"/new", "/", "/d", "/none/x", "/d/f/x", "/full/new"} {
				ask(path, a, api.ErrArg)
			}
		}
		for _, path := range []string{"/", "/d", "/d/f", "/l", "/full/n0", last} {
			ask(path, attr{}, api.ErrThere)
		}
		for _, path := range []string{"/none/x", "/d/none/x/y", "/d/f/x/y", "/l/x/y", "/none/none/x"} {
			ask(path, attr{}, api.ErrNone)
		}
		for _, path := range []string{"/d/f/x", "/l/x", "/l/f", deep(14) + "/file/x"} {
			ask(path, attr{}, api.ErrKind)
		}
		for _, path := range []string{"/full/new", deep(15) + "/new"} {
			ask(path, attr{}, api.ErrFull)
		}
	}
}

func TestTargetsAndDataRefused(t *testing.T) {
	s := world(t)
	link := func(path, target string, want api.Errno) {
		t.Helper()
		checkRefused(t, s, "Link("+path+")", want, func(s *source.Tree) api.Errno { return s.Link(path, target, attr{Target: "other"}) })
	}
	for _, target := range []string{"", "a\x00b", strings.Repeat("t", attrs.MaxTarget+1)} {
		link("x", target, api.ErrName)
		link("/new", target, api.ErrArg)
		link("/d", target, api.ErrArg)
		link("/none/x", target, api.ErrArg)
	}
	for path, want := range map[string]api.Errno{"x": api.ErrName, "/new": api.ErrArg, "/d": api.ErrArg, "/none/x": api.ErrArg, "/d/f/x": api.ErrArg, "/full/x": api.ErrArg} {
		checkRefused(t, s, "File("+path+") of too much", want, func(s *source.Tree) api.Errno { return s.File(path, long, attr{}) })
	}
}

func TestWriteRefused(t *testing.T) {
	s := world(t)
	ask := func(path, data string, want api.Errno) {
		t.Helper()
		checkRefused(t, s, "Write("+path+")", want, func(s *source.Tree) api.Errno { return s.Write(path, data) })
	}
	for _, path := range notPaths() {
		ask(path, long, api.ErrName)
	}
	for _, path := range []string{"/d/f", "/none", "/none/x", "/d", "/l", "/"} {
		ask(path, long, api.ErrArg)
	}
	for _, path := range []string{"/none", "/none/x", "/d/f/x", "/l/f"} {
		ask(path, "x", api.ErrNone)
	}
	for _, path := range []string{"/", "/d", "/l", deep(16)} {
		ask(path, "x", api.ErrKind)
	}
}

func TestAttrRefused(t *testing.T) {
	s := world(t)
	ask := func(path string, a attr, want api.Errno) {
		t.Helper()
		checkRefused(t, s, "Attr("+path+")", want, func(s *source.Tree) api.Errno { return s.Attr(path, a) })
	}
	for _, a := range mayNot() {
		for _, path := range notPaths() {
			ask(path, a, api.ErrName)
		}
		for _, path := range []string{"/none", "/none/x", "/d/f/x", "/l/f"} {
			ask(path, a, api.ErrNone)
		}
		for _, path := range []string{"/", "/d", "/d/f", "/l"} {
			ask(path, a, api.ErrArg)
		}
	}
}

func TestXattrAndClearRefused(t *testing.T) {
	s := world(t)
	must(t, s.Attr("/g", attr{Xattrs: xattrs(attrs.MaxXattrs)}))
	set := func(path, name, value string, want api.Errno) {
		t.Helper()
		checkRefused(t, s, "Xattr("+path+", "+name+")", want, func(s *source.Tree) api.Errno { return s.Xattr(path, name, value) })
	}
	clears := func(path, name string, want api.Errno) {
		t.Helper()
		checkRefused(t, s, "Clear("+path+", "+name+")", want, func(s *source.Tree) api.Errno { return s.Clear(path, name) })
	}
	much := strings.Repeat("v", attrs.MaxValue+1)
	for _, path := range notPaths() {
		set(path, "", much, api.ErrName)
		clears(path, "", api.ErrName)
	}
	for _, path := range []string{"/none", "/none/x", "/d/f/x", "/l/f"} {
		set(path, "", much, api.ErrNone)
		clears(path, "x", api.ErrNone)
	}
	for _, path := range []string{"/", "/d", "/d/f", "/l"} {
		for _, name := range []string{"", ".", "..", "a/b", "\xff", "a\n", strings.Repeat("n", 65)} {
			set(path, name, "1", api.ErrArg)
			clears(path, name, api.ErrNone)
		}
		set(path, "x", much, api.ErrArg)
		clears(path, "X", api.ErrNone)
		clears(path, "xx", api.ErrNone)
	}
	set("/g", "A", "", api.ErrArg)
	set("/g", "cc", "", api.ErrArg)
	set("/g", "z", "", api.ErrArg)
	set("/g", "a", much, api.ErrArg)
}

func TestMoveRefused(t *testing.T) {
	s := world(t)
	must(t, s.Folder("/h", attr{}), s.Folder("/h/1", attr{}), s.File("/h/1/2", "", attr{}))
	ask := func(from, to string, want api.Errno) {
		t.Helper()
		checkRefused(t, s, "Move("+from+", "+to+")", want, func(s *source.Tree) api.Errno { return s.Move(from, to) })
	}
	for _, path := range notPaths() {
		ask(path, "/new", api.ErrName)
		ask("/none", path, api.ErrName)
		ask("/", path, api.ErrName)
		ask(path, path, api.ErrName)
	}
	for _, to := range []string{"/new", "/none", "/none/x", "/", "/d", "/d/f/x", "/full/new", "/none/x/y"} {
		ask("/none", to, api.ErrNone)
		ask("/d/f/none", to, api.ErrNone)
	}
	for _, to := range []string{"/new", "/", "/d", "/none/x", "/d/f/x", "/full/new"} {
		ask("/", to, api.ErrArg)
	}
	for _, to := range []string{"/d/new", "/d/f", "/d/f/x", "/d/none/x", "/d/e/new"} {
		ask("/d", to, api.ErrArg)
	}
	ask("/d/f", "/d/f/x", api.ErrArg)
	ask("/l", "/l/x", api.ErrArg)
	ask("/full", "/full/new", api.ErrArg)
	for _, to := range []string{"/d/f", "/d", "/", "/l", "/full/n0", deep(16)} {
		ask("/d/f", to, api.ErrThere)
	}
	ask("/1", "/1", api.ErrThere)
	ask("/h", deep(15)+"/n1", api.ErrThere)
	for _, to := range []string{"/none/x", "/d/none/x", "/g/x/y", "/l/x/y", deep(14) + "/none/x"} {
		ask("/h", to, api.ErrNone)
	}
	for _, to := range []string{"/g/x", "/l/x", "/l/e", deep(14) + "/file/x"} {
		ask("/h", to, api.ErrKind)
	}
	ask("/h", deep(15)+"/new", api.ErrName)
	ask("/h/1", deep(15)+"/new", api.ErrName)
	ask("/h", deep(14)+"/new", api.ErrName)
	ask("/1", "/d/new", api.ErrName)
	ask("/h", "/full/new", api.ErrFull)
	ask("/h/1/2", deep(15)+"/new", api.ErrFull)
	ask("/d/f", "/full/new", api.ErrFull)
}

func TestDropRefused(t *testing.T) {
	s := world(t)
	ask := func(path string, want api.Errno) {
		t.Helper()
		checkRefused(t, s, "Drop("+path+")", want, func(s *source.Tree) api.Errno { return s.Drop(path) })
	}
	for _, path := range notPaths() {
		ask(path, api.ErrName)
	}
	for _, path := range []string{"/none", "/none/x", "/d/f/x", "/l/f"} {
		ask(path, api.ErrNone)
	}
	ask("/", api.ErrArg)
}

func TestLooksRefused(t *testing.T) {
	s := world(t)
	ask := func(path string, want, list, read api.Errno) {
		t.Helper()
		checkRefused(t, s, "Stat("+path+")", want, func(s *source.Tree) api.Errno {
			x, e := s.Stat(path)
			if x != (stat{}) && e != api.OK {
				t.Errorf("Stat(%s): %v beside %v", path, x, e)
			}
			return e
		})
		checkRefused(t, s, "Attrs("+path+")", want, func(s *source.Tree) api.Errno {
			a, e := s.Attrs(path)
			if !attrs.Same(a, attr{}) && e != api.OK {
				t.Errorf("Attrs(%s): %v beside %v", path, a, e)
			}
			return e
		})
		checkRefused(t, s, "List("+path+")", list, func(s *source.Tree) api.Errno {
			l, e := s.List(path)
			if l != nil && e != api.OK {
				t.Errorf("List(%s): %q beside %v", path, l, e)
			}
			return e
		})
		if read != api.OK {
			checkRefused(t, s, "Read("+path+")", read, func(s *source.Tree) api.Errno {
				d, e := s.Read(path)
				if d != "" && e != api.OK {
					t.Errorf("Read(%s): %q beside %v", path, d, e)
				}
				return e
			})
		}
	}
	for _, path := range notPaths() {
		ask(path, api.ErrName, api.ErrName, api.ErrName)
	}
	for _, path := range []string{"/none", "/none/x", "/d/f/x", "/l/f"} {
		ask(path, api.ErrNone, api.ErrNone, api.ErrNone)
	}
	for _, path := range []string{"/", "/d", "/full", deep(16)} {
		ask(path, api.OK, api.OK, api.ErrKind)
	}
	ask("/l", api.OK, api.ErrKind, api.ErrKind)
	ask("/d/f", api.OK, api.ErrKind, api.OK)
}

func TestLimits(t *testing.T) {
	s := source.New()
	most := strings.Repeat("m", api.MaxData)
	must(t, s.File("/f", most, attr{}), s.File("/g", "", attr{}), s.Write("/g", most))
	checkStat(t, s, "/f", stat{api.NodeFile, api.MaxData, 2, 1})
	checkStat(t, s, "/g", stat{api.NodeFile, api.MaxData, 3, 3})
	checkRead(t, s, "/g", most)
	must(t, s.Link("/l", strings.Repeat("t", attrs.MaxTarget), attr{Mode: attrs.MaxMode, Mtime: api.MaxTick, Xattrs: xattrs(attrs.MaxXattrs)}))
	checkStat(t, s, "/l", stat{api.NodeLink, attrs.MaxTarget, 4, 4})
	must(t, s.Xattr("/l", "p", strings.Repeat("v", attrs.MaxValue)), s.Clear("/l", "a"), s.Xattr("/l", "0", ""))
	is(t, "a 17th extended attribute", s.Xattr("/l", "1", ""), api.ErrArg)
	must(t, s.Attr("/f", attr{Mode: attrs.MaxMode, Mtime: api.MaxTick, Xattrs: xattrs(attrs.MaxXattrs)}))
	must(t, s.File("/"+strings.Repeat("\U0001F600", 63)+"é", "", attr{}), s.File("/"+strings.Repeat("n", 64), "", attr{}))
}

func TestFullFolder(t *testing.T) {
	s := source.New()
	must(t, s.Folder("/d", attr{}), s.File("/f", "", attr{}), s.Folder("/e", attr{}))
	fill(t, s, "/d", api.MaxEntries-1)
	must(t, s.Move("/f", "/d/f"))
	checkStat(t, s, "/d", stat{api.NodeFolder, api.MaxEntries, 2, s.Now()})
	is(t, "File into a full folder", s.File("/d/new", "", attr{}), api.ErrFull)
	is(t, "Move into a full folder", s.Move("/e", "/d/e"), api.ErrFull)
	must(t, s.Move("/d/f", "/d/g"), s.Write("/d/g", "g"), s.Folder("/e/e", attr{}))
	must(t, s.Drop("/d/n0"), s.Move("/e", "/d/e"))
	is(t, "Link into a full folder", s.Link("/d/new", "t", attr{}), api.ErrFull)
	must(t, s.Move("/d/n1", "/n1000"), s.Link("/d/new", "t", attr{}))
	fill(t, s, "/", api.MaxEntries)
	is(t, "Folder into a full root", s.Folder("/new", attr{}), api.ErrFull)
	is(t, "Move into a full root", s.Move("/d/e", "/new"), api.ErrFull)
	must(t, s.Move("/d", "/new"), s.File("/new/e/f", "", attr{}))
	if l, e := s.List("/"); len(l) != api.MaxEntries || !slices.IsSorted(l) || e != api.OK {
		t.Errorf("List of a full root: %d names, %v", len(l), e)
	}
}

func TestDeepest(t *testing.T) {
	s := source.New()
	chain(t, s, api.MaxDepth-1)
	must(t, s.File(deep(15)+"/f", "f", attr{}), s.Drop(deep(15)+"/f"), s.Link(deep(15)+"/l", "l", attr{}), s.Folder(deep(16), attr{}))
	is(t, "a 17th name", s.File(deep(17), "", attr{}), api.ErrName)
	must(t, s.Folder("/a", attr{}), s.Folder("/a/b", attr{}), s.Folder("/a/b/c", attr{}), s.File("/a/f", "", attr{}))
	must(t, s.Move("/a", deep(13)+"/a"))
	must(t, s.Move(deep(13)+"/a", "/a"), s.Drop("/a/b/c"), s.Move("/a", deep(14)+"/a"))
	checkStat(t, s, deep(14)+"/a/b", stat{api.NodeFolder, 0, 21, 26})
	must(t, s.Move(deep(14)+"/a/b", deep(15)+"/b"))
	is(t, "the chain beneath another folder", s.Move("/1/2", "/0/2"), api.ErrNone)
	must(t, s.Folder("/0", attr{}))
	must(t, s.Move("/1/2", "/0/2"))
	must(t, s.Folder("/0/0", attr{}))
	is(t, "the chain deeper", s.Move("/0/2", "/0/0/2"), api.ErrName)
	must(t, s.Move("/0/2", "/2"), s.Move("/2", "/0/2"))
}

package source

import (
	"testing"

	"muniment/api"
	"muniment/attrs"
)

// TestClock stands within the package, since no list of calls that ends in time brings the clock to MaxTick.
func TestClock(t *testing.T) {
	type attr = attrs.Attr
	full := func(s *Tree) api.Errno {
		for i := range 256 {
			if e := s.File("/full/"+string(rune(0x100+i)), "", attr{}); e != api.OK {
				return e
			}
		}
		return api.OK
	}
	s := New()
	for i, e := range []api.Errno{s.Folder("/d", attr{}), s.File("/f", "f", attr{Xattrs: []attrs.Xattr{{Name: "x"}}}), s.Folder("/full", attr{}), full(s)} {
		if e != api.OK {
			t.Fatalf("step %d: %v", i, e)
		}
	}
	calls := []struct {
		name string
		call func(s *Tree) api.Errno
	}{
		{"Folder", func(s *Tree) api.Errno { return s.Folder("/new", attr{}) }},
		{"File", func(s *Tree) api.Errno { return s.File("/d/new", "", attr{}) }},
		{"Link", func(s *Tree) api.Errno { return s.Link("/new", "t", attr{}) }},
		{"Write", func(s *Tree) api.Errno { return s.Write("/f", "f") }},
		{"Attr", func(s *Tree) api.Errno { return s.Attr("/f", attr{Uid: 1}) }},
		{"Xattr", func(s *Tree) api.Errno { return s.Xattr("/f", "y", "") }},
		{"Clear", func(s *Tree) api.Errno { return s.Clear("/f", "x") }},
		{"Move", func(s *Tree) api.Errno { return s.Move("/f", "/d/f") }},
		{"Move within a folder", func(s *Tree) api.Errno { return s.Move("/f", "/new") }},
		{"Drop", func(s *Tree) api.Errno { return s.Drop("/full") }},
	}
	for _, c := range calls {
		u := s.Twin()
		u.now = api.MaxTick - 1
		if e := c.call(u); e != api.OK || u.Now() != api.MaxTick {
			t.Errorf("%s at the last tick but one: %v, Now %d", c.name, e, u.Now())
		}
		if x, e := u.Twin().Stat("/"); x.Tick > api.MaxTick || e != api.OK {
			t.Errorf("%s: the root's tick is %d, %v", c.name, x.Tick, e)
		}
		u = s.Twin()
		u.now = api.MaxTick
		if e := c.call(u); e != api.ErrFull || u.Now() != api.MaxTick {
			t.Errorf("%s at the last tick: %v, Now %d", c.name, e, u.Now())
		}
		u.now = s.now
		checkAlike(t, c.name, s, u)
	}
	checkAheadOfClock(t, s)
}

// checkAlike also asks the next node's number.
func checkAlike(t *testing.T, what string, s, u *Tree) {
	t.Helper()
	v, w := s.Twin(), u.Twin()
	for _, x := range []*Tree{v, w} {
		if e := x.Folder("/d/next", attrs.Attr{}); e != api.OK {
			t.Fatalf("%s: %v", what, e)
		}
	}
	a, b := v.Value(), w.Value()
	if len(a) != len(b) {
		t.Fatalf("%s: %d nodes, were %d", what, len(b), len(a))
	}
	for i := range a {
		if a[i].Path != b[i].Path || !attrs.Same(a[i].Attr, b[i].Attr) || a[i].Data != b[i].Data || a[i].Ino != b[i].Ino || a[i].Tick != b[i].Tick {
			t.Errorf("%s: %v, was %v", what, b[i], a[i])
		}
	}
}

// checkAheadOfClock asks that a clock that cannot go on is told last, and that looking needs none.
func checkAheadOfClock(t *testing.T, s *Tree) {
	t.Helper()
	type attr = attrs.Attr
	u := s.Twin()
	u.now = api.MaxTick
	_, e1 := u.Stat("/f")
	_, e2 := u.Attrs("/f")
	_, e3 := u.List("/")
	_, e4 := u.Read("/f")
	for i, c := range []struct{ e, want api.Errno }{
		{u.Folder("x", attr{}), api.ErrName}, {u.File("/new", "", attr{Mtime: -1}), api.ErrArg}, {u.Folder("/d", attr{}), api.ErrThere},
		{u.Link("/none/x", "t", attr{}), api.ErrNone}, {u.File("/f/x", "", attr{}), api.ErrKind},
		{u.Write("/d", ""), api.ErrKind}, {u.Write("/none", ""), api.ErrNone},
		{u.Attr("/d", attr{Mtime: -1}), api.ErrArg}, {u.Xattr("/d", "", ""), api.ErrArg}, {u.Clear("/d", "x"), api.ErrNone},
		{u.Move("/none", "/new"), api.ErrNone}, {u.Move("/d", "/d/x"), api.ErrArg}, {u.Move("/d", "/f"), api.ErrThere}, {u.Move("/d", "/f/x"), api.ErrKind},
		{u.Drop("/"), api.ErrArg}, {u.Drop("/none"), api.ErrNone},
		{e1, api.OK}, {e2, api.OK}, {e3, api.OK}, {e4, api.OK},
	} {
		if c.e != c.want {
			t.Errorf("at the last tick, call %d: %v, want %v", i, c.e, c.want)
		}
	}
}

package source_test

import (
	"maps"
	"math/rand"
	"slices"
	"strings"
	"testing"

	"muniment/api"
	"muniment/attrs"
	"muniment/names"
	"muniment/source"
)

// model is a tree told otherwise: all nodes by their whole paths, and each thing that the chapter asks sought among them.
type model struct {
	nodes map[string]node
	now   int64
	last  uint64
	reads int
}

func newModel() *model {
	return &model{nodes: map[string]node{"/": {Path: "/", Attr: attr{Node: api.NodeFolder, Mode: 0o755}, Ino: 1}}, last: 1}
}

func (m *model) twin() *model {
	c := *m
	c.nodes = maps.Clone(m.nodes)
	return &c
}

// over is the path of the folder of a path.
func over(path string) string {
	i := strings.LastIndexByte(path, '/')
	return path[:max(i, 1)]
}

func isPath(path string) bool {
	_, e := names.Split(path)
	return e == api.OK
}

func isBeneath(path, above string) bool {
	return path != above && strings.HasPrefix(path, strings.TrimSuffix(above, "/")+"/")
}

func depth(path string) int { return strings.Count(strings.TrimSuffix(path, "/"), "/") }

func (m *model) kind(path string) uint8 { return m.nodes[path].Attr.Node }

func (m *model) list(path string) []string {
	var l []string
	for p := range m.nodes {
		if p != "/" && over(p) == path {
			l = append(l, p[strings.LastIndexByte(p, '/')+1:])
		}
	}
	slices.Sort(l)
	return l
}

func (m *model) value() []node {
	return slices.SortedFunc(maps.Values(m.nodes), func(a, b node) int {
		l, _ := names.Split(a.Path)
		k, _ := names.Split(b.Path)
		return slices.Compare(l, k)
	})
}

func (m *model) touch(l ...string) {
	m.now++
	for _, path := range l {
		n := m.nodes[path]
		n.Tick = m.now
		m.nodes[path] = n
	}
}

// refusal is an error, and whether there is a reason for it.
type refusal struct {
	so bool
	e  api.Errno
}

// first is the first of them for which there is a reason.
func first(l ...refusal) api.Errno {
	for _, r := range l {
		if r.so {
			return r.e
		}
	}
	return api.OK
}

func (m *model) add(path, data string, a attr, kind uint8, target string) api.Errno {
	a.Node, a.Target = kind, target
	if !isPath(path) {
		return api.ErrName
	}
	up := over(path)
	e := first(
		refusal{attrs.Check(a) != api.OK || len(data) > 1<<20, api.ErrArg},
		refusal{m.kind(path) != 0, api.ErrThere},
		refusal{m.kind(up) == 0, api.ErrNone},
		refusal{m.kind(up) != api.NodeFolder, api.ErrKind},
		refusal{len(m.list(up)) == 256, api.ErrFull},
	)
	if e == api.OK {
		m.last++
		m.nodes[path] = node{Path: path, Attr: a, Data: data, Ino: m.last}
		m.touch(path, up)
	}
	return e
}

func (m *model) write(path, data string) api.Errno {
	e := first(
		refusal{!isPath(path), api.ErrName},
		refusal{len(data) > 1<<20, api.ErrArg},
		refusal{m.kind(path) == 0, api.ErrNone},
		refusal{m.kind(path) != api.NodeFile, api.ErrKind},
	)
	if e == api.OK {
		n := m.nodes[path]
		n.Data = data
		m.nodes[path] = n
		m.touch(path)
	}
	return e
}

func (m *model) attr(path string, a attr) api.Errno {
	n := m.nodes[path]
	a.Node, a.Target = n.Attr.Node, n.Attr.Target
	e := first(
		refusal{!isPath(path), api.ErrName},
		refusal{m.kind(path) == 0, api.ErrNone},
		refusal{attrs.Check(a) != api.OK, api.ErrArg},
	)
	if e == api.OK {
		n.Attr = a
		m.nodes[path] = n
		m.touch(path)
	}
	return e
}

func (m *model) xattr(path, name, value string) api.Errno {
	a := m.nodes[path].Attr
	a.Xattrs = slices.DeleteFunc(slices.Clone(a.Xattrs), func(x xattr) bool { return x.Name == name })
	a.Xattrs = append(a.Xattrs, xattr{Name: name, Value: value})
	slices.SortFunc(a.Xattrs, func(x, y xattr) int { return strings.Compare(x.Name, y.Name) })
	return m.attr(path, a)
}

func (m *model) clear(path, name string) api.Errno {
	a := m.nodes[path].Attr
	was := len(a.Xattrs)
	a.Xattrs = slices.DeleteFunc(slices.Clone(a.Xattrs), func(x xattr) bool { return x.Name == name })
	if isPath(path) && len(a.Xattrs) == was {
		return api.ErrNone
	}
	return m.attr(path, a)
}

func (m *model) move(from, to string) api.Errno {
	if !isPath(from) || !isPath(to) {
		return api.ErrName
	}
	most := 0
	moved := []node{}
	for p, n := range m.nodes {
		if p == from || isBeneath(p, from) {
			most = max(most, depth(p)-depth(from))
			moved = append(moved, n)
		}
	}
	up := over(to)
	e := first(
		refusal{m.kind(from) == 0, api.ErrNone},
		refusal{from == "/" || isBeneath(to, from), api.ErrArg},
		refusal{m.kind(to) != 0, api.ErrThere},
		refusal{m.kind(up) == 0, api.ErrNone},
		refusal{m.kind(up) != api.NodeFolder, api.ErrKind},
		refusal{depth(to)+most > 16, api.ErrName},
		refusal{len(m.list(up)) == 256 && over(from) != up, api.ErrFull},
	)
	if e != api.OK {
		return e
	}
	for _, n := range moved {
		delete(m.nodes, n.Path)
	}
	for _, n := range moved {
		n.Path = to + n.Path[len(from):]
		m.nodes[n.Path] = n
	}
	m.touch(over(from), up)
	return api.OK
}

func (m *model) drop(path string) api.Errno {
	e := first(
		refusal{!isPath(path), api.ErrName},
		refusal{m.kind(path) == 0, api.ErrNone},
		refusal{path == "/", api.ErrArg},
	)
	if e == api.OK {
		maps.DeleteFunc(m.nodes, func(p string, _ node) bool { return p == path || isBeneath(p, path) })
		m.touch(over(path))
	}
	return e
}

// look is what Stat, List and Read answer.
func (m *model) look(path string) (x stat, l []string, data string, e, listed, read api.Errno) {
	n := m.nodes[path]
	if e = first(refusal{!isPath(path), api.ErrName}, refusal{n.Path == "", api.ErrNone}); e != api.OK {
		return stat{}, nil, "", e, e, e
	}
	x = stat{Node: n.Attr.Node, Ino: n.Ino, Tick: n.Tick}
	listed, read = api.ErrKind, api.ErrKind
	switch n.Attr.Node {
	case api.NodeFolder:
		l, listed = m.list(path), api.OK
		x.Size = len(l)
	case api.NodeFile:
		data, read = n.Data, api.OK
		x.Size = len(data)
		m.reads++
	default:
		x.Size = len(n.Attr.Target)
	}
	return x, l, data, e, listed, read
}

// script does the same to trees and to their models, step by step.
type script struct {
	t      *testing.T
	r      *rand.Rand
	trees  []*source.Tree
	models []*model
	seen   []map[[2]int64]node // of each tree: what a node of that number and tick was, its names as its bytes if it is a folder
	names  []string
	often  []string // paths that are taken more often than others
}

func pick[T any](r *rand.Rand, l []T) T { return l[r.Intn(len(l))] }

// path is one of those that are there, or one of a name more, or any.
func (s *script) path(m *model) string {
	if len(s.often) > 0 && s.r.Intn(6) > 0 {
		return pick(s.r, s.often)
	}
	there := slices.Sorted(maps.Keys(m.nodes))
	switch s.r.Intn(12) {
	case 0, 1, 2, 3, 4:
		return pick(s.r, there)
	case 5, 6, 7, 8, 9:
		return strings.TrimSuffix(pick(s.r, there), "/") + "/" + pick(s.r, s.names)
	case 10:
		return "/" + pick(s.r, s.names)
	}
	path := ""
	for range s.r.Intn(7) {
		path += "/" + pick(s.r, s.names)
	}
	return path + pick(s.r, []string{"", "", "/", "x"})
}

func (s *script) attr() attr {
	a := attr{Node: uint8(s.r.Intn(5)), Mode: uint32(s.r.Intn(0o10004)), Uid: uint32(s.r.Intn(3)), Mtime: int64(s.r.Intn(9)), Target: pick(s.r, []string{"", "t"})}
	if s.r.Intn(20) == 0 {
		a.Mtime = pick(s.r, []int64{-1, api.MaxTick, api.MaxTick + 1})
	}
	for _, name := range s.names {
		if s.r.Intn(3*len(s.names)) == 0 {
			a.Xattrs = append(a.Xattrs, xattr{Name: name, Value: "v"})
		}
	}
	if s.r.Intn(4) > 0 {
		slices.SortFunc(a.Xattrs, func(x, y xattr) int { return strings.Compare(x.Name, y.Name) })
	}
	return a
}

// step does one thing to the tree i; what is handed in is written over behind it.
func (s *script) step(i int) (what string, got, want api.Errno) {
	t, m := s.trees[i], s.models[i]
	path, name, a := s.path(m), pick(s.r, s.names), s.attr()
	data := pick(s.r, []string{"", "x", "yz", "some more bytes"})
	b := a
	b.Xattrs = slices.Clone(a.Xattrs)
	defer scribble(b.Xattrs, xattr{Name: "/", Value: "scribbled"})
	switch s.r.Intn(13) {
	case 0, 1:
		return "Folder " + path, t.Folder(path, b), m.add(path, "", a, api.NodeFolder, "")
	case 2, 3:
		return "File " + path, t.File(path, data, b), m.add(path, data, a, api.NodeFile, "")
	case 4:
		return "Link " + path, t.Link(path, data, b), m.add(path, "", a, api.NodeLink, data)
	case 5:
		return "Write " + path, t.Write(path, data), m.write(path, data)
	case 6:
		return "Attr " + path, t.Attr(path, b), m.attr(path, a)
	case 7:
		return "Xattr " + path + " " + name, t.Xattr(path, name, data), m.xattr(path, name, data)
	case 8:
		if l := m.nodes[path].Attr.Xattrs; len(l) > 0 && s.r.Intn(3) > 0 {
			name = pick(s.r, l).Name
		}
		return "Clear " + path + " " + name, t.Clear(path, name), m.clear(path, name)
	case 9, 10, 11:
		to := s.path(m)
		return "Move " + path + " " + to, t.Move(path, to), m.move(path, to)
	default:
		if len(m.nodes) > 3 && m.kind(path) == api.NodeFolder && s.r.Intn(3) > 0 {
			path = s.path(m) // else too little is left
		}
		return "Drop " + path, t.Drop(path), m.drop(path)
	}
}

// compare asks all that a tree tells of a path.
func (s *script) compare(i int, what, path string) {
	s.t.Helper()
	t, m := s.trees[i], s.models[i]
	wantStat, wantList, wantData, e, listed, read := m.look(path)
	if x, f := t.Stat(path); x != wantStat || f != e {
		s.t.Fatalf("%s: Stat(%s): %v, %v; want %v, %v", what, path, x, f, wantStat, e)
	}
	if a, f := t.Attrs(path); !attrs.Same(a, m.nodes[path].Attr) || f != e {
		s.t.Fatalf("%s: Attrs(%s): %v, %v; want %v, %v", what, path, a, f, m.nodes[path].Attr, e)
	}
	if l, f := t.List(path); !slices.Equal(l, wantList) || f != listed {
		s.t.Fatalf("%s: List(%s): %q, %v; want %q, %v", what, path, l, f, wantList, listed)
	}
	if d, f := t.Read(path); d != wantData || f != read {
		s.t.Fatalf("%s: Read(%s): %q, %v; want %q, %v", what, path, d, f, wantData, read)
	}
	if t.Reads() != m.reads || t.Now() != m.now {
		s.t.Fatalf("%s: Reads %d, Now %d; want %d, %d", what, t.Reads(), t.Now(), m.reads, m.now)
	}
}

// honest asks that no two nodes have one number, that a number and a tick tell what a node is, and that all lists together are all nodes.
func (s *script) honest(i int, what string) {
	s.t.Helper()
	t := s.trees[i]
	value := t.Value()
	inos := map[uint64]string{}
	var listed []string
	for _, n := range value {
		if other, there := inos[n.Ino]; there {
			s.t.Fatalf("%s: %s and %s have the number %d", what, other, n.Path, n.Ino)
		}
		inos[n.Ino] = n.Path
		if l, e := t.List(n.Path); e == api.OK {
			n.Data = strings.Join(l, "/")
			for _, name := range l {
				listed = append(listed, strings.TrimSuffix(n.Path, "/")+"/"+name)
			}
		}
		n.Path = ""
		key := [2]int64{int64(n.Ino), n.Tick}
		if was, there := s.seen[i][key]; there && !sameNode(was, n) {
			s.t.Fatalf("%s: a node of number and tick %v is %v, was %v", what, key, n, was)
		}
		s.seen[i][key] = n
	}
	slices.Sort(listed)
	if want := slices.Sorted(slices.Values(paths(t)[1:])); !slices.Equal(listed, want) {
		s.t.Fatalf("%s: all lists are %q, all nodes %q", what, listed, want)
	}
}

func (s *script) run(steps, whole int) {
	s.t.Helper()
	for step := range steps {
		i := s.r.Intn(len(s.trees))
		what, got, want := s.step(i)
		if got != want {
			s.t.Fatalf("%s: %v, want %v", what, got, want)
		}
		s.compare(i, what, s.path(s.models[i]))
		if step%whole == 0 {
			for j := range s.trees {
				checkValue(s.t, what, s.trees[j], s.models[j].value())
				s.honest(j, what)
			}
		}
		if s.r.Intn(steps) == 0 || step == steps/2 {
			s.trees = append(s.trees, s.trees[i].Twin())
			s.models = append(s.models, s.models[i].twin())
			s.seen = append(s.seen, maps.Clone(s.seen[i]))
		}
		if s.t.Failed() {
			return
		}
	}
}

func newScript(t *testing.T, seed int64, names []string) *script {
	return &script{
		t: t, r: rand.New(rand.NewSource(seed)), names: names,
		trees: []*source.Tree{source.New()}, models: []*model{newModel()}, seen: []map[[2]int64]node{{}},
	}
}

var namesLike = []string{"a", "b", "a-", "a b", "A", "é", "\U0001F600", "a.b"}

func TestAnyScripts(t *testing.T) {
	for seed := range int64(300) {
		s := newScript(t, seed, namesLike[:2+seed%7])
		if seed%5 == 0 {
			s.names = append(slices.Clone(s.names), "", "..", "\xff")
		}
		s.run(150, 3)
	}
}

// TestDeepScripts has folders within folders, so that the deepest paths are met.
func TestDeepScripts(t *testing.T) {
	for seed := range int64(60) {
		s := newScript(t, 1000+seed, []string{"a", "b"})
		for depth := range 17 {
			path := strings.Repeat("/a", depth)
			s.often = append(s.often, path+"/a", path+"/b", path+"/b/a")
			if depth > 0 && depth < 13 {
				must(t, s.trees[0].Folder(path, attr{}), s.models[0].add(path, "", attr{}, api.NodeFolder, ""))
			}
		}
		s.run(100, 5)
	}
}

// TestFullScripts has folders of as many entries as they may have, or one less.
func TestFullScripts(t *testing.T) {
	for seed := range int64(12) {
		s := newScript(t, 2000+seed, []string{"x", "y"})
		s.often = []string{"/d", "/e", "/f", "/d/x", "/d/y", "/e/x", "/e/y", "/f/x", "/d/n0", "/d/n1", "/e/n0", "/e/n1", "/d/n0/x", "/e/n0/x", "/x", "/y"}
		for i, path := range []string{"/d", "/e"} {
			must(t, s.trees[0].Folder(path, attr{}), s.models[0].add(path, "", attr{}, api.NodeFolder, ""))
			for _, name := range numbered(0, api.MaxEntries-i) {
				must(t, s.trees[0].Folder(path+"/n"+name, attr{}), s.models[0].add(path+"/n"+name, "", attr{}, api.NodeFolder, ""))
			}
		}
		s.run(80, 20)
	}
}

// TestTwinsStayAlike does the same to a tree and to its twin.
func TestTwinsStayAlike(t *testing.T) {
	for seed := range int64(60) {
		s := newScript(t, 3000+seed, namesLike[:5])
		s.run(40, 40)
		i := len(s.trees) - 1
		u := s.trees[i].Twin()
		for step := range 40 {
			other := *s
			other.trees, other.models = slices.Clone(s.trees), slices.Clone(s.models)
			other.trees[i], other.models[i] = u, s.models[i].twin()
			next := s.r.Int63()
			s.r, other.r = rand.New(rand.NewSource(next)), rand.New(rand.NewSource(next))
			what, e, _ := s.step(i)
			if _, f, _ := other.step(i); e != f {
				t.Fatalf("%s: %v, of its twin %v", what, e, f)
			}
			s.r = rand.New(rand.NewSource(next + int64(step)))
			checkValue(t, what, u, s.trees[i].Value())
			if u.Now() != s.trees[i].Now() || u.Reads() != s.trees[i].Reads() {
				t.Fatalf("%s: Now %d, Reads %d, of its twin %d, %d", what, s.trees[i].Now(), s.trees[i].Reads(), u.Now(), u.Reads())
			}
		}
	}
}

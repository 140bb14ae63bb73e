package disk_test

import (
	"maps"
	"math"
	"slices"
	"strconv"
	"testing"

	"muniment/api"
	"muniment/disk"
)

// stored is a file of a model: its bytes, and how many are safe.
type stored struct {
	number int
	data   string
	safe   int
}

// model is a disk told otherwise: it has each directory that there was since the last one that was made safe, whole.
type model struct {
	quota   int64
	made    int
	history []map[string]*stored // the first is safe, the last is how it is now
	calls   int
	planned int // which call, counted from the first one on; -1: none
	plan    disk.Crash
	down    bool
	crash   disk.Crash
}

func newModel(quota int64) *model {
	return &model{quota: quota, history: []map[string]*stored{{}}, planned: -1}
}

func (m *model) now() map[string]*stored { return m.history[len(m.history)-1] }

func (m *model) used() int64 {
	n := 0
	for _, f := range m.now() {
		n += len(f.data)
	}
	return int64(n)
}

func (m *model) files() []disk.File {
	l := []disk.File{}
	for name, f := range m.now() {
		l = append(l, disk.File{Name: name, Data: f.data, Safe: f.safe})
	}
	slices.SortFunc(l, func(a, b disk.File) int { return slices.Compare([]byte(a.Name), []byte(b.Name)) })
	return l
}

// counted says whether a counted call answers ErrDown.
func (m *model) counted() bool {
	if m.down {
		return true
	}
	m.calls++
	if m.calls == m.planned {
		m.down, m.crash = true, m.plan
	}
	return m.down
}

// step keeps the directory as it becomes.
func (m *model) step(do func(map[string]*stored)) {
	next := maps.Clone(m.now())
	do(next)
	m.history = append(m.history, next)
}

func mayBeLabel(name string) bool {
	for _, c := range []byte(name) {
		if !slices.Contains([]byte("abcdefghijklmnopqrstuvwxyz0123456789-."), c) {
			return false
		}
	}
	return name != "" && len(name) <= 200
}

func (m *model) create(name string) api.Errno {
	switch {
	case m.counted():
		return api.ErrDown
	case !mayBeLabel(name):
		return api.ErrName
	case m.now()[name] != nil:
		return api.ErrThere
	case len(m.now()) == 4096:
		return api.ErrFull
	}
	m.made++
	number := m.made
	f := &stored{number: number}
	m.step(func(dir map[string]*stored) { dir[name] = f })
	return api.OK
}

func (m *model) append(name, data string) api.Errno {
	switch f := m.now()[name]; {
	case m.counted():
		return api.ErrDown
	case f == nil:
		return api.ErrNone
	case m.used()+int64(len(data)) > m.quota:
		return api.ErrFull
	default:
		f.data += data
		return api.OK
	}
}

func (m *model) read(name string, off, n int) (string, api.Errno) {
	switch f := m.now()[name]; {
	case m.counted():
		return "", api.ErrDown
	case f == nil:
		return "", api.ErrNone
	case off < 0 || n < 0 || off > len(f.data) || n > len(f.data) || off+n > len(f.data):
		return "", api.ErrArg
	default:
		return f.data[off : off+n], api.OK
	}
}

func (m *model) size(name string) (int, api.Errno) {
	switch f := m.now()[name]; {
	case m.counted():
		return 0, api.ErrDown
	case f == nil:
		return 0, api.ErrNone
	default:
		return len(f.data), api.OK
	}
}

func (m *model) sync(name string) api.Errno {
	switch f := m.now()[name]; {
	case m.counted():
		return api.ErrDown
	case f == nil:
		return api.ErrNone
	default:
		f.safe = len(f.data)
		return api.OK
	}
}

func (m *model) syncDir() api.Errno {
	if m.counted() {
		return api.ErrDown
	}
	m.history = []map[string]*stored{m.now()}
	return api.OK
}

func (m *model) rename(from, to string) api.Errno {
	switch f := m.now()[from]; {
	case m.counted():
		return api.ErrDown
	case f == nil:
		return api.ErrNone
	case !mayBeLabel(to):
		return api.ErrName
	case from != to:
		m.step(func(dir map[string]*stored) {
			dir[to] = f
			delete(dir, from)
		})
	}
	return api.OK
}

func (m *model) remove(name string) api.Errno {
	switch {
	case m.counted():
		return api.ErrDown
	case m.now()[name] == nil:
		return api.ErrNone
	}
	m.step(func(dir map[string]*stored) { delete(dir, name) })
	return api.OK
}

func (m *model) list() ([]string, api.Errno) {
	if m.counted() {
		return nil, api.ErrDown
	}
	return slices.Sorted(maps.Keys(m.now())), api.OK
}

func (m *model) planAt(at int, c disk.Crash) api.Errno {
	if at < 0 || at > 1<<30 {
		return api.ErrArg
	}
	m.planned, m.plan = -1, disk.Crash{}
	if at > 0 {
		m.planned, m.plan = m.calls+at, c
	}
	return api.OK
}

func (m *model) pull(c disk.Crash) api.Errno {
	if m.down {
		return api.ErrDown
	}
	m.down, m.crash = true, c
	return api.OK
}

// rest is a number modulo another one, counted up or down from it into the range.
func rest(n, by int) int { return ((n % by) + by) % by }

func (m *model) restart() api.Errno {
	if !m.down {
		return api.ErrDone
	}
	dir := m.history[rest(m.crash.Dir, len(m.history))]
	files := slices.Collect(maps.Values(dir))
	slices.SortFunc(files, func(a, b *stored) int { return a.number - b.number })
	for i, f := range files {
		j := 0
		if len(m.crash.Keep) > 0 {
			j = rest(m.crash.Keep[i%len(m.crash.Keep)], len(f.data)-f.safe+1)
		}
		f.data = f.data[:f.safe+j]
		f.safe = len(f.data)
	}
	m.history = []map[string]*stored{dir}
	m.down, m.planned = false, -1
	return api.OK
}

func (m *model) corrupt(name string, at int, data string) api.Errno {
	switch f := m.now()[name]; {
	case m.down:
		return api.ErrDown
	case f == nil:
		return api.ErrNone
	case at < 0 || at > len(f.data) || at+len(data) > len(f.data):
		return api.ErrArg
	default:
		f.data = f.data[:at] + data + f.data[at+len(data):]
		return api.OK
	}
}

func (m *model) setQuota(n int64) api.Errno {
	if n < 0 || n > 1<<40 {
		return api.ErrArg
	}
	m.quota = n
	return api.OK
}

// twin is a model of the same state.
func (m *model) twin() *model {
	t := *m
	t.history = nil
	files := map[*stored]*stored{}
	for _, dir := range m.history {
		next := map[string]*stored{}
		for name, f := range dir {
			if files[f] == nil {
				copied := *f
				files[f] = &copied
			}
			next[name] = files[f]
		}
		t.history = append(t.history, next)
	}
	return &t
}

// choices are what a random walk chooses by: bytes, one behind the other; noughts behind their end.
type choices struct {
	bytes []byte
	at    int
}

func (c *choices) done() bool { return c.at >= len(c.bytes) }

func (c *choices) below(n int) int {
	if c.done() {
		return 0
	}
	c.at++
	return int(c.bytes[c.at-1]) % n
}

func (c *choices) label() string {
	return []string{"a", "b", "c", "d-1", "e.x", "0", "A", ""}[c.below(8)]
}

// number is mostly a small one, and sometimes one at an edge.
func (c *choices) number() int {
	switch n := c.below(64); n {
	case 60:
		return math.MinInt
	case 61:
		return math.MaxInt
	case 62:
		return -1
	case 63:
		return math.MinInt + 1
	default:
		return n % 20
	}
}

func (c *choices) data() string {
	s := ""
	for n := c.below(12); n > 0; n-- {
		s += string(rune('a' + c.below(26)))
	}
	return s
}

func (c *choices) crash() disk.Crash {
	x := disk.Crash{Dir: c.number()}
	for n := c.below(4); n > 0; n-- {
		x.Keep = append(x.Keep, c.number())
	}
	return x
}

// both has one call made on a disk and on its model, and tells both answers.
func both(d *disk.Disk, m *model, c *choices) (what string, got, want []any) {
	name := c.label()
	switch c.below(20) {
	case 0, 1, 2:
		return "Create " + name, []any{d.Create(name)}, []any{m.create(name)}
	case 3, 4, 5, 6:
		data := c.data()
		return "Append " + name + " " + data, []any{d.Append(name, data)}, []any{m.append(name, data)}
	case 7:
		off, n := c.number(), c.number()
		s, e := d.Read(name, off, n)
		s2, e2 := m.read(name, off, n)
		return "Read " + name, []any{s, e}, []any{s2, e2}
	case 8:
		n, e := d.Size(name)
		n2, e2 := m.size(name)
		return "Size " + name, []any{n, e}, []any{n2, e2}
	case 9, 10:
		return "Sync " + name, []any{d.Sync(name)}, []any{m.sync(name)}
	case 11:
		return "SyncDir", []any{d.SyncDir()}, []any{m.syncDir()}
	case 12, 13:
		to := c.label()
		return "Rename " + name + " " + to, []any{d.Rename(name, to)}, []any{m.rename(name, to)}
	case 14:
		return "Remove " + name, []any{d.Remove(name)}, []any{m.remove(name)}
	case 15:
		l, e := d.List()
		l2, e2 := m.list()
		return "List", append(anys(l), e), append(anys(l2), e2)
	default:
		return bothBeside(d, m, c, name)
	}
}

// bothBeside is both of the calls that are not counted.
func bothBeside(d *disk.Disk, m *model, c *choices, name string) (what string, got, want []any) {
	switch c.below(5) {
	case 0:
		at, x := c.number(), c.crash()
		return "Plan " + strconv.Itoa(at), []any{d.Plan(at, x)}, []any{m.planAt(at, x)}
	case 1:
		x := c.crash()
		return "Pull", []any{d.Pull(x)}, []any{m.pull(x)}
	case 2:
		return "Restart", []any{d.Restart()}, []any{m.restart()}
	case 3:
		at, data := c.number(), c.data()
		return "Corrupt " + name, []any{d.Corrupt(name, at, data)}, []any{m.corrupt(name, at, data)}
	default:
		n := int64(c.number() * 7)
		return "Quota", []any{d.Quota(n)}, []any{m.setQuota(n)}
	}
}

func anys(l []string) []any {
	var out []any
	for _, s := range l {
		out = append(out, s)
	}
	return out
}

func checkState(t *testing.T, what string, d *disk.Disk, m *model) {
	t.Helper()
	if got, want := d.Files(), m.files(); !slices.Equal(got, want) {
		t.Fatalf("%s: Files: %v, want %v", what, got, want)
	}
	if got, want := d.Free(), max(0, m.quota-m.used()); got != want {
		t.Fatalf("%s: Free: %d, want %d", what, got, want)
	}
	if got := d.Calls(); got != m.calls {
		t.Fatalf("%s: Calls: %d, want %d", what, got, m.calls)
	}
	if got := d.Down(); got != m.down {
		t.Fatalf("%s: Down: %v, want %v", what, got, m.down)
	}
}

// walk goes on by choices with a disk and its model, and with twins of both, among which it changes.
func walk(t *testing.T, choose []byte) {
	t.Helper()
	c := &choices{bytes: choose}
	quota := int64(c.below(256))
	d := made(t, quota)
	type pair struct {
		d *disk.Disk
		m *model
	}
	pairs := []pair{{d, newModel(quota)}}
	for !c.done() {
		p := pairs[c.below(len(pairs))]
		if c.below(40) == 39 && len(pairs) < 4 {
			pairs = append(pairs, pair{p.d.Twin(), p.m.twin()})
		}
		what, got, want := both(p.d, p.m, c)
		if !slices.Equal(got, want) {
			t.Fatalf("%s: %v, want %v", what, got, want)
		}
		for _, q := range pairs {
			checkState(t, what, q.d, q.m)
		}
	}
}

package disk_test

import (
	"math"
	"math/rand"
	"runtime"
	"slices"
	"strconv"
	"strings"
	"testing"

	"muniment/api"
	"muniment/disk"
)

func made(t *testing.T, quota int64) *disk.Disk {
	t.Helper()
	d, e := disk.New(quota)
	if d == nil || e != api.OK {
		t.Fatalf("New(%d): %v, %v", quota, d, e)
	}
	return d
}

// must fails where a call that has to succeed, to come to what is asked, does not.
func must(t *testing.T, l ...api.Errno) {
	t.Helper()
	for i, e := range l {
		if e != api.OK {
			t.Fatalf("step %d: %v", i, e)
		}
	}
}

// with is a disk with these files, in which each text has a point behind what is safe; the directory is safe.
func with(t *testing.T, files ...string) *disk.Disk {
	t.Helper()
	d := made(t, 1000)
	for i := 0; i < len(files); i += 2 {
		safe, behind, _ := strings.Cut(files[i+1], ".")
		must(t, d.Create(files[i]), d.Append(files[i], safe), d.Sync(files[i]), d.Append(files[i], behind))
	}
	must(t, d.SyncDir())
	return d
}

// shown is a disk's files as with takes them.
func shown(d *disk.Disk) []string {
	var l []string
	for _, f := range d.Files() {
		l = append(l, f.Name, f.Data[:f.Safe]+"."+f.Data[f.Safe:])
	}
	return l
}

func checkShown(t *testing.T, what string, d *disk.Disk, want ...string) {
	t.Helper()
	if l := shown(d); !slices.Equal(l, want) {
		t.Errorf("%s: %q, want %q", what, l, want)
	}
}

func checkErr(t *testing.T, what string, got, want api.Errno) {
	t.Helper()
	if got != want {
		t.Errorf("%s: %v, want %v", what, got, want)
	}
}

func checkList(t *testing.T, d *disk.Disk, want ...string) {
	t.Helper()
	if l, e := d.List(); e != api.OK || !slices.Equal(l, want) {
		t.Errorf("List: %q, %v; want %q", l, e, want)
	}
}

func checkRead(t *testing.T, d *disk.Disk, name string, off, n int, want string, err api.Errno) {
	t.Helper()
	if s, e := d.Read(name, off, n); s != want || e != err {
		t.Errorf("Read(%s, %d, %d): %q, %v; want %q, %v", name, off, n, s, e, want, err)
	}
}

func checkSize(t *testing.T, d *disk.Disk, name string, want int, err api.Errno) {
	t.Helper()
	if n, e := d.Size(name); n != want || e != err {
		t.Errorf("Size(%s): %d, %v; want %d, %v", name, n, e, want, err)
	}
}

// The chapter's examples, which go on from one another.

func firstExample(t *testing.T) *disk.Disk {
	t.Helper()
	d := made(t, 10)
	for i, x := range []struct{ got, want api.Errno }{
		{d.Create("a"), api.OK}, {d.Append("a", "hello"), api.OK}, {d.Create("a"), api.ErrThere},
		{d.Create("A"), api.ErrName}, {d.Append("b", "x"), api.ErrNone}, {d.Append("a", "world!"), api.ErrFull},
	} {
		checkErr(t, "first example, call "+strconv.Itoa(i), x.got, x.want)
	}
	return d
}

func TestExamplesNothingSafe(t *testing.T) {
	d := firstExample(t)
	checkRead(t, d, "a", 1, 3, "ell", api.OK)
	checkRead(t, d, "a", 3, 3, "", api.ErrArg)
	if d.Free() != 5 || d.Calls() != 8 {
		t.Errorf("Free, Calls: %d, %d", d.Free(), d.Calls())
	}
	checkErr(t, "Pull", d.Pull(disk.Crash{}), api.OK)
	if l, e := d.List(); len(l) != 0 || e != api.ErrDown {
		t.Errorf("List while it is down: %q, %v", l, e)
	}
	checkErr(t, "Restart", d.Restart(), api.OK)
	checkList(t, d)
}

func TestExamplesDirectorySafe(t *testing.T) {
	d := made(t, 10)
	must(t, d.Create("a"), d.SyncDir(), d.Append("a", "hello"))
	must(t, d.Pull(disk.Crash{Keep: []int{3}}), d.Restart())
	if l := d.Files(); !slices.Equal(l, []disk.File{{Name: "a", Data: "hel", Safe: 3}}) {
		t.Errorf("Files: %v", l)
	}
	must(t, d.Sync("a"), d.Rename("a", "b"), d.Pull(disk.Crash{}), d.Restart())
	checkList(t, d, "a")
	checkErr(t, "Plan", d.Plan(2, disk.Crash{Dir: 1}), api.OK)
	checkList(t, d, "a")
	if l, e := d.List(); len(l) != 0 || e != api.ErrDown || !d.Down() {
		t.Errorf("the planned call: %q, %v, %v", l, e, d.Down())
	}
}

// P5.1

func TestNew(t *testing.T) {
	for _, quota := range []int64{0, 1, 1000, disk.MaxQuota - 1, disk.MaxQuota} {
		d := made(t, quota)
		if d.Free() != quota || d.Calls() != 0 || len(d.Files()) != 0 || d.Down() {
			t.Errorf("New(%d): %d free, %d calls, %v, %v", quota, d.Free(), d.Calls(), d.Files(), d.Down())
		}
		checkList(t, d)
	}
	for _, quota := range []int64{-1, disk.MaxQuota + 1, math.MinInt64, math.MaxInt64} {
		if d, e := disk.New(quota); d != nil || e != api.ErrArg {
			t.Errorf("New(%d): %v, %v", quota, d, e)
		}
	}
}

func TestLimits(t *testing.T) {
	if disk.MaxQuota != 1<<40 || disk.MaxSize != 1<<27 || disk.MaxLabel != 200 {
		t.Errorf("MaxQuota, MaxSize, MaxLabel: %d, %d, %d", disk.MaxQuota, disk.MaxSize, disk.MaxLabel)
	}
}

// Each byte may stand in a label or not, wherever it stands, for Create as for Rename.
func TestLabelBytes(t *testing.T) {
	const may = "abcdefghijklmnopqrstuvwxyz0123456789-."
	for c := range 256 {
		for _, name := range []string{"x" + string([]byte{byte(c)}), string([]byte{byte(c)}) + "x", string([]byte{byte(c)})} {
			want := api.ErrName
			if strings.IndexByte(may, byte(c)) >= 0 {
				want = api.OK
			}
			d := with(t, "from", ".")
			checkErr(t, "Create "+strconv.Quote(name), d.Create(name), want)
			d = with(t, "from", ".")
			checkErr(t, "Rename to "+strconv.Quote(name), d.Rename("from", name), want)
		}
	}
}

func TestLabelLengths(t *testing.T) {
	for n, want := range map[int]api.Errno{0: api.ErrName, 1: api.OK, 199: api.OK, 200: api.OK, 201: api.ErrName, 100000: api.ErrName} {
		d := with(t, "from", ".")
		name := strings.Repeat("a", n)
		checkErr(t, "Rename to "+strconv.Itoa(n)+" bytes", d.Rename("from", name), want)
		d = made(t, 0)
		checkErr(t, "Create of "+strconv.Itoa(n)+" bytes", d.Create(name), want)
	}
	d := made(t, 0)
	must(t, d.Create("."), d.Create(".."), d.Create("-"))
	checkErr(t, "Create of runes", d.Create("é"), api.ErrName)
	checkList(t, d, "-", ".", "..")
}

func TestCreateAppendReadSize(t *testing.T) {
	d := made(t, 100)
	must(t, d.Create("b"), d.Create("a"))
	checkSize(t, d, "a", 0, api.OK)
	checkRead(t, d, "a", 0, 0, "", api.OK)
	must(t, d.Append("a", "he"), d.Append("b", "\x00\xff"), d.Append("a", ""), d.Append("a", "llo"))
	checkSize(t, d, "a", 5, api.OK)
	for off := range 6 {
		for n := range 6 - off {
			checkRead(t, d, "a", off, n, "hello"[off:off+n], api.OK)
		}
	}
	checkRead(t, d, "b", 0, 2, "\x00\xff", api.OK)
	checkShown(t, "all", d, "a", ".hello", "b", ".\x00\xff")
}

func TestReadRefuses(t *testing.T) {
	d := with(t, "a", "hel.lo")
	for _, x := range [][2]int{{-1, 0}, {-1, 1}, {0, -1}, {1, -1}, {5, -5}, {0, 6}, {1, 5}, {5, 1}, {6, 0}, {6, -1}, {6, 1},
		{math.MaxInt, 1}, {1, math.MaxInt}, {math.MaxInt, math.MaxInt}, {math.MinInt, 0}, {0, math.MinInt}, {math.MinInt, math.MinInt}, {math.MinInt, math.MaxInt}} {
		checkRead(t, d, "a", x[0], x[1], "", api.ErrArg)
	}
	checkRead(t, d, "b", -1, 0, "", api.ErrNone)
	checkRead(t, d, "A", 0, 0, "", api.ErrNone)
}

func TestList(t *testing.T) {
	d := made(t, 0)
	l := []string{"b", "a", "aa", "a-", "a.", "a0", "0", "-", ".", "z", "10", "9"}
	for _, name := range l {
		must(t, d.Create(name))
	}
	checkList(t, d, "-", ".", "0", "10", "9", "a", "a-", "a.", "a0", "aa", "b", "z")
}

func TestRename(t *testing.T) {
	d := with(t, "a", "x.y", "b", "zz.")
	must(t, d.Rename("a", "c"))
	checkShown(t, "to a new label", d, "b", "zz.", "c", "x.y")
	checkRead(t, d, "a", 0, 0, "", api.ErrNone)
	must(t, d.Rename("c", "b"))
	checkShown(t, "over another file", d, "b", "x.y")
	if d.Free() != 998 {
		t.Errorf("Free: %d", d.Free())
	}
	must(t, d.Append("b", "!"), d.Create("a"))
	checkShown(t, "gone on with", d, "a", ".", "b", "x.y!")
}

// A label that is renamed to itself is no change: the directory has none since it was made safe.
func TestRenameToItself(t *testing.T) {
	d := with(t, "a", "x.y", "b", "z.")
	must(t, d.Rename("a", "a"))
	checkShown(t, "to itself", d, "a", "x.y", "b", "z.")
	must(t, d.Remove("b"), d.Pull(disk.Crash{Dir: 1}), d.Restart())
	checkShown(t, "one change survives, which is the removal", d, "a", "x.")
	checkErr(t, "no such label to itself", d.Rename("b", "b"), api.ErrNone)
	checkErr(t, "no label to itself", d.Rename("B", "B"), api.ErrNone)
}

func TestRemove(t *testing.T) {
	d := with(t, "a", "x.y", "b", "z.")
	must(t, d.Remove("a"))
	checkShown(t, "removed", d, "b", "z.")
	checkErr(t, "again", d.Remove("a"), api.ErrNone)
	must(t, d.Create("a"))
	checkShown(t, "made anew", d, "a", ".", "b", "z.")
	if d.Free() != 999 {
		t.Errorf("Free: %d", d.Free())
	}
}

func TestMaxFiles(t *testing.T) {
	d := made(t, 10)
	for i := range api.MaxFiles {
		must(t, d.Create("f"+strconv.Itoa(i)))
	}
	checkErr(t, "one more", d.Create("x"), api.ErrFull)
	checkErr(t, "one that may not be", d.Create("X"), api.ErrName)
	checkErr(t, "one that is there", d.Create("f0"), api.ErrThere)
	must(t, d.Rename("f0", "y"))
	checkErr(t, "still full", d.Create("f0"), api.ErrFull)
	must(t, d.Remove("y"), d.Create("x"))
	checkErr(t, "full again", d.Create("y"), api.ErrFull)
	must(t, d.Rename("x", "f1"), d.Create("y"))
	checkErr(t, "full once more", d.Create("x"), api.ErrFull)
	if l, e := d.List(); len(l) != api.MaxFiles || !slices.IsSorted(l) || e != api.OK {
		t.Errorf("List: %d labels, %v", len(l), e)
	}
}

func TestMaxSize(t *testing.T) {
	all := strings.Repeat("x", disk.MaxSize+1)
	d := made(t, disk.MaxSize)
	must(t, d.Create("a"), d.Create("b"))
	checkErr(t, "one byte too many for a file, and for the quota", d.Append("a", all), api.ErrArg)
	must(t, d.Append("a", all[:disk.MaxSize-3]), d.Append("b", "xyz"))
	checkErr(t, "full", d.Append("a", "x"), api.ErrFull)
	checkErr(t, "too many, and full", d.Append("a", "1234"), api.ErrArg)
	must(t, d.Remove("b"), d.Append("a", "123"), d.Append("a", ""))
	checkErr(t, "one byte more", d.Append("a", "x"), api.ErrArg)
	must(t, d.Quota(disk.MaxQuota))
	checkErr(t, "one byte more, with room", d.Append("a", "x"), api.ErrArg)
	checkSize(t, d, "a", disk.MaxSize, api.OK)
	checkRead(t, d, "a", disk.MaxSize-4, 4, "x123", api.OK)
	must(t, d.Create("b"), d.Append("b", "x"))
}

func TestQuota(t *testing.T) {
	d := made(t, 10)
	must(t, d.Create("a"), d.Create("b"), d.Append("a", "12345"), d.Append("b", "1234"))
	checkErr(t, "one byte too many", d.Append("b", "12"), api.ErrFull)
	must(t, d.Append("b", "1"), d.Append("b", ""))
	checkErr(t, "full", d.Append("a", "1"), api.ErrFull)
	if d.Free() != 0 {
		t.Errorf("Free: %d", d.Free())
	}
	must(t, d.Quota(7))
	if d.Free() != 0 {
		t.Errorf("Free with more used than the quota: %d", d.Free())
	}
	// Nothing comes to it, and yet more would be used than the quota.
	checkErr(t, "nothing, with more used than the quota", d.Append("a", ""), api.ErrFull)
	must(t, d.Create("c"), d.Rename("c", "b"))
	if d.Free() != 2 {
		t.Errorf("Free behind the rename: %d", d.Free())
	}
	must(t, d.Append("a", "12"))
	checkErr(t, "full again", d.Append("b", "1"), api.ErrFull)
	for _, n := range []int64{-1, disk.MaxQuota + 1, math.MinInt64, math.MaxInt64} {
		checkErr(t, "Quota", d.Quota(n), api.ErrArg)
		if d.Free() != 0 {
			t.Errorf("Quota(%d) was refused, and %d are free", n, d.Free())
		}
	}
	for _, n := range []int64{0, 7, 8, disk.MaxQuota} {
		must(t, d.Quota(n))
		if d.Free() != max(0, n-7) {
			t.Errorf("Quota(%d): %d free", n, d.Free())
		}
	}
}

// A crash that brings more bytes back than the quota allows by now is no error: nothing is free.
func TestFreeBehindCrash(t *testing.T) {
	d := with(t, "a", "12345.")
	must(t, d.Remove("a"), d.Quota(4), d.Create("b"), d.Append("b", "1234"), d.Sync("b"))
	must(t, d.Pull(disk.Crash{}), d.Restart())
	checkShown(t, "the old one", d, "a", "12345.")
	if d.Free() != 0 {
		t.Errorf("Free: %d", d.Free())
	}
	checkErr(t, "Append", d.Append("a", ""), api.ErrFull)
}

// What no crash can bring back takes no memory.
func TestGoneIsGivenBack(t *testing.T) {
	data := strings.Repeat("x", 1<<20)
	heap := func() int64 {
		var m runtime.MemStats
		runtime.GC()
		runtime.ReadMemStats(&m)
		return int64(m.HeapAlloc)
	}
	for what, step := range map[string]func(*disk.Disk){
		"removed": func(d *disk.Disk) { must(t, d.Append("a", data), d.Remove("a"), d.SyncDir()) },
		"renamed over": func(d *disk.Disk) {
			must(t, d.Append("a", data), d.Create("b"), d.Rename("b", "a"), d.SyncDir(), d.Remove("a"), d.SyncDir())
		},
		"lost": func(d *disk.Disk) { must(t, d.Append("a", data), d.Pull(disk.Crash{}), d.Restart()) },
	} {
		d := made(t, disk.MaxQuota)
		before := heap()
		for range 200 {
			must(t, d.Create("a"))
			step(d)
		}
		checkList(t, d)
		if grown := heap() - before; grown > 64<<20 {
			t.Errorf("%s: %d bytes are kept for nothing", what, grown)
		}
		runtime.KeepAlive(d)
	}
}

// P5.4

func TestCorrupt(t *testing.T) {
	d := with(t, "a", "hel.lo", "b", ".")
	calls := d.Calls()
	must(t, d.Corrupt("a", 1, "EL"), d.Corrupt("a", 4, "O"), d.Corrupt("a", 5, ""), d.Corrupt("a", 0, ""))
	checkShown(t, "pieces", d, "a", "hEL.lO", "b", ".")
	must(t, d.Corrupt("a", 0, "HELLO"))
	checkShown(t, "all", d, "a", "HEL.LO", "b", ".")
	must(t, d.Corrupt("b", 0, ""))
	for _, x := range []struct {
		at   int
		data string
	}{{-1, ""}, {-1, "x"}, {0, "123456"}, {1, "12345"}, {5, "x"}, {6, ""}, {math.MaxInt, "x"}, {math.MaxInt, ""}, {math.MinInt, "x"}} {
		checkErr(t, "Corrupt at "+strconv.Itoa(x.at), d.Corrupt("a", x.at, x.data), api.ErrArg)
	}
	checkErr(t, "no such label", d.Corrupt("c", -1, ""), api.ErrNone)
	checkShown(t, "refused", d, "a", "HEL.LO", "b", ".")
	if d.Calls() != calls {
		t.Errorf("Calls: %d, and %d ahead", d.Calls(), calls)
	}
	must(t, d.Pull(disk.Crash{}))
	checkErr(t, "while it is down", d.Corrupt("c", -1, ""), api.ErrDown)
	checkErr(t, "while it is down", d.Corrupt("a", 0, "x"), api.ErrDown)
	must(t, d.Restart())
	checkShown(t, "what was written over stays", d, "a", "HEL.", "b", ".")
}

// countedCalls are one of each kind that succeeds on with(t, "a", ..), and one that is refused where one can be.
func countedCalls() map[string]func(*disk.Disk) api.Errno {
	return map[string]func(*disk.Disk) api.Errno{
		"Create":      func(d *disk.Disk) api.Errno { return d.Create("new") },
		"Append":      func(d *disk.Disk) api.Errno { return d.Append("a", "x") },
		"Read":        func(d *disk.Disk) api.Errno { _, e := d.Read("a", 0, 1); return e },
		"Size":        func(d *disk.Disk) api.Errno { _, e := d.Size("a"); return e },
		"Sync":        func(d *disk.Disk) api.Errno { return d.Sync("a") },
		"SyncDir":     func(d *disk.Disk) api.Errno { return d.SyncDir() },
		"Rename":      func(d *disk.Disk) api.Errno { return d.Rename("a", "b") },
		"Remove":      func(d *disk.Disk) api.Errno { return d.Remove("a") },
		"List":        func(d *disk.Disk) api.Errno { _, e := d.List(); return e },
		"Create name": func(d *disk.Disk) api.Errno { return d.Create("A") },
		"Create same": func(d *disk.Disk) api.Errno { return d.Create("a") },
		"Append none": func(d *disk.Disk) api.Errno { return d.Append("c", "x") },
		"Append full": func(d *disk.Disk) api.Errno { return d.Append("a", strings.Repeat("x", 1000)) },
		"Read none":   func(d *disk.Disk) api.Errno { s, e := d.Read("c", 0, 1); return zero(s == "", e) },
		"Read past":   func(d *disk.Disk) api.Errno { s, e := d.Read("a", 0, 1000); return zero(s == "", e) },
		"Size none":   func(d *disk.Disk) api.Errno { n, e := d.Size("c"); return zero(n == 0, e) },
		"Sync none":   func(d *disk.Disk) api.Errno { return d.Sync("c") },
		"Rename none": func(d *disk.Disk) api.Errno { return d.Rename("c", "B") },
		"Rename name": func(d *disk.Disk) api.Errno { return d.Rename("a", "B") },
		"Remove none": func(d *disk.Disk) api.Errno { return d.Remove("c") },
	}
}

// refusedBy is what those of countedCalls answer that are refused.
func refusedBy() map[string]api.Errno {
	return map[string]api.Errno{"Create name": api.ErrName, "Create same": api.ErrThere, "Append none": api.ErrNone, "Append full": api.ErrFull, "Read none": api.ErrNone,
		"Read past": api.ErrArg, "Size none": api.ErrNone, "Sync none": api.ErrNone, "Rename none": api.ErrNone, "Rename name": api.ErrName, "Remove none": api.ErrNone}
}

// zero is an error beside which the other result is zero, or a number that no error has.
func zero(isZero bool, e api.Errno) api.Errno {
	if isZero {
		return e
	}
	return -1
}

// Each counted call is counted, whatever it answers; a refused one changes nothing else; one while the disk is down is not counted.
func TestCalls(t *testing.T) {
	for name, call := range countedCalls() {
		d := with(t, "a", "x.y", "b", "z.")
		must(t, d.Rename("b", "e"))
		calls, files, free := d.Calls(), d.Files(), d.Free()
		checkErr(t, name, call(d), refusedBy()[name])
		if d.Calls() != calls+1 {
			t.Errorf("%s: Calls %d, and %d ahead", name, d.Calls(), calls)
		}
		if refusedBy()[name] != api.OK {
			if !slices.Equal(d.Files(), files) || d.Free() != free {
				t.Errorf("%s was refused: %v, %d; %v, %d ahead", name, d.Files(), d.Free(), files, free)
			}
			must(t, d.Pull(disk.Crash{Dir: 1}), d.Restart())
			checkShown(t, name+" was refused; behind a crash", d, "a", "x.", "e", "z.")
		}
		must(t, d.Pull(disk.Crash{}))
		calls = d.Calls()
		checkErr(t, name+" while it is down", call(d), api.ErrDown)
		if d.Calls() != calls {
			t.Errorf("%s while it is down: Calls %d, and %d ahead", name, d.Calls(), calls)
		}
	}
}

// What is not counted is not counted, whether it succeeds or not.
func TestNotCalls(t *testing.T) {
	d := with(t, "a", "x.y")
	calls := d.Calls()
	must(t, d.Plan(1, disk.Crash{}), d.Corrupt("a", 0, "z"), d.Quota(10))
	d.Free()
	d.Calls()
	d.Files()
	d.Down()
	d.Twin()
	checkErr(t, "Restart", d.Restart(), api.ErrDone)
	checkErr(t, "Corrupt", d.Corrupt("c", 0, ""), api.ErrNone)
	if d.Calls() != calls || d.Down() {
		t.Errorf("Calls: %d, and %d ahead; down: %v", d.Calls(), calls, d.Down())
	}
	must(t, d.Plan(0, disk.Crash{}), d.Pull(disk.Crash{}), d.Restart())
	if d.Calls() != calls {
		t.Errorf("Calls behind a crash: %d, and %d ahead", d.Calls(), calls)
	}
}

func TestFilesWhileDown(t *testing.T) {
	d := with(t, "b", "z.", "a", "x.y")
	must(t, d.Rename("b", "c"), d.Pull(disk.Crash{}))
	checkShown(t, "while it is down", d, "a", "x.y", "c", "z.")
	if d.Free() != 997 {
		t.Errorf("Free while it is down: %d", d.Free())
	}
	must(t, d.Quota(5))
	if d.Free() != 2 {
		t.Errorf("Free while it is down, with another quota: %d", d.Free())
	}
	must(t, d.Restart())
	checkShown(t, "up again", d, "a", "x.", "b", "z.")
	if d.Free() != 3 {
		t.Errorf("Free: %d", d.Free())
	}
}

func TestNilDisk(t *testing.T) {
	var d *disk.Disk
	for name, call := range countedCalls() {
		checkErr(t, name, call(d), api.ErrNil)
	}
	if s, e := d.Read("a", 0, 0); s != "" || e != api.ErrNil {
		t.Errorf("Read: %q, %v", s, e)
	}
	if l, e := d.List(); len(l) != 0 || e != api.ErrNil {
		t.Errorf("List: %q, %v", l, e)
	}
	checkErr(t, "Plan", d.Plan(-1, disk.Crash{}), api.ErrNil)
	checkErr(t, "Pull", d.Pull(disk.Crash{}), api.ErrNil)
	checkErr(t, "Restart", d.Restart(), api.ErrNil)
	checkErr(t, "Corrupt", d.Corrupt("A", -1, ""), api.ErrNil)
	checkErr(t, "Quota", d.Quota(-1), api.ErrNil)
	if !d.Down() || d.Free() != 0 || d.Calls() != 0 || len(d.Files()) != 0 || d.Twin() != nil {
		t.Errorf("%v, %d, %d, %v, %v", d.Down(), d.Free(), d.Calls(), d.Files(), d.Twin())
	}
}

// What follows.

func randomBytes(r *rand.Rand, n int) []byte {
	b := make([]byte, n)
	r.Read(b)
	return b
}

// Long walks of all calls are held against a model that keeps each directory whole.
func TestAgainstModel(t *testing.T) {
	r := rand.New(rand.NewSource(1))
	for range 3000 {
		walk(t, randomBytes(r, 50+r.Intn(800)))
	}
}

func FuzzAgainstModel(f *testing.F) {
	r := rand.New(rand.NewSource(2))
	for range 20 {
		f.Add(randomBytes(r, 200))
	}
	f.Fuzz(func(t *testing.T, choose []byte) { walk(t, choose) })
}

// Disks that New has not made, and copies of one that see one another's memory: nothing is promised of them but that no call panics.
func TestNoPanicOfOthers(t *testing.T) {
	r := rand.New(rand.NewSource(3))
	for range 1000 {
		c := &choices{bytes: randomBytes(r, 600)}
		first := &disk.Disk{}
		if c.below(2) == 0 {
			first = made(t, 100)
		}
		l := []*disk.Disk{first}
		for !c.done() {
			d := l[c.below(len(l))]
			if c.below(10) == 0 && len(l) < 4 {
				copied := *d
				l = append(l, &copied)
			}
			both(d, newModel(100), c)
			d.Twin().Restart()
			d.Files()
			d.Free()
		}
	}
}

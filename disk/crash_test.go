package disk_test

import (
	"fmt"
	"math"
	"math/rand"
	"slices"
	"strconv"
	"strings"
	"testing"

	"muniment/api"
	"muniment/disk"
)

func crashed(t *testing.T, d *disk.Disk, c disk.Crash) *disk.Disk {
	t.Helper()
	twin := d.Twin()
	must(t, twin.Pull(c), twin.Restart())
	return twin
}

// P5.2

func TestSync(t *testing.T) {
	d := with(t, "a", ".hello", "b", "x.y")
	must(t, d.Sync("a"))
	checkShown(t, "synced", d, "a", "hello.", "b", "x.y")
	checkShown(t, "behind a crash", crashed(t, d, disk.Crash{}), "a", "hello.", "b", "x.")
	must(t, d.Append("a", "!"))
	checkShown(t, "grown", d, "a", "hello.!", "b", "x.y")
	checkShown(t, "behind a crash", crashed(t, d, disk.Crash{}), "a", "hello.", "b", "x.")
}

// A file's bytes are safe whatever label it has, and the directory is, whatever bytes its files have.
func TestSyncIsNotSyncDir(t *testing.T) {
	d := made(t, 100)
	must(t, d.Create("a"), d.Append("a", "x"), d.Sync("a"))
	checkShown(t, "only bytes are safe", crashed(t, d, disk.Crash{}))
	must(t, d.SyncDir(), d.Rename("a", "b"), d.Append("b", "y"), d.Sync("b"))
	checkShown(t, "renamed, and not safe", crashed(t, d, disk.Crash{}), "a", "xy.")
	must(t, d.Append("b", "z"), d.SyncDir())
	checkShown(t, "only the directory is safe", crashed(t, d, disk.Crash{}), "b", "xy.")
}

func TestSyncDirForgetsChanges(t *testing.T) {
	d := with(t, "a", "x.")
	must(t, d.Create("b"), d.Rename("a", "c"), d.SyncDir())
	for _, dir := range []int{0, 1, 2, 3, -1, math.MaxInt} {
		checkShown(t, "no changes since", crashed(t, d, disk.Crash{Dir: dir}), "b", ".", "c", "x.")
	}
	must(t, d.Remove("b"))
	checkShown(t, "one change, of which none survives", crashed(t, d, disk.Crash{Dir: 0}), "b", ".", "c", "x.")
	checkShown(t, "one change, which survives", crashed(t, d, disk.Crash{Dir: 1}), "c", "x.")
	checkShown(t, "two is none of one", crashed(t, d, disk.Crash{Dir: 2}), "b", ".", "c", "x.")
}

// P5.3 and what survives

// Each beginning of a list of changes, told in order; a file that has lost its label can be there again.
func TestSurvivingChanges(t *testing.T) {
	d := with(t, "a", "A.", "b", "B.")
	must(t, d.Create("c"), d.Append("c", "C"), d.Sync("c"), // c is made
		d.Rename("a", "d"), d.Rename("c", "b"), d.Remove("b"), d.Create("a"), d.Append("a", "new"), d.Sync("a"), d.Rename("d", "a"))
	for k, want := range [][]string{
		{"a", "A.", "b", "B."},
		{"a", "A.", "b", "B.", "c", "C."},
		{"b", "B.", "c", "C.", "d", "A."},
		{"b", "C.", "d", "A."},
		{"d", "A."},
		{"a", "new.", "d", "A."},
		{"a", "A."},
	} {
		for _, dir := range []int{k, k + 7, k - 7, k + 7000, k - 7000} {
			checkShown(t, "Dir "+strconv.Itoa(dir), crashed(t, d, disk.Crash{Dir: dir}), want...)
		}
	}
	checkShown(t, "the greatest", crashed(t, d, disk.Crash{Dir: math.MaxInt}), shown(crashed(t, d, disk.Crash{Dir: math.MaxInt % 7}))...)
	checkShown(t, "the least", crashed(t, d, disk.Crash{Dir: math.MinInt}), shown(crashed(t, d, disk.Crash{Dir: math.MinInt%7 + 7}))...)
}

func TestSurvivingBytes(t *testing.T) {
	d := with(t, "a", "abc.defgh")
	for keep, want := range map[int]string{0: "abc", 1: "abcd", 4: "abcdefg", 5: "abcdefgh", 6: "abc", 7: "abcd", 11: "abcdefgh", -1: "abcdefgh", -5: "abcd", -6: "abc", -7: "abcdefgh", 6000: "abc",
		math.MaxInt: "abc" + "defgh"[:math.MaxInt%6], math.MinInt: "abc" + "defgh"[:math.MinInt%6+6]} {
		checkShown(t, "Keep "+strconv.Itoa(keep), crashed(t, d, disk.Crash{Keep: []int{keep}}), "a", want+".")
		checkShown(t, "Keep "+strconv.Itoa(keep)+" and another one", crashed(t, d, disk.Crash{Keep: []int{keep, 2}}), "a", want+".")
	}
	for _, none := range [][]int{nil, {}} {
		checkShown(t, "no Keep", crashed(t, d, disk.Crash{Keep: none}), "a", "abc.")
	}
}

// Keep is told by the files' numbers, in which they were made, not by their labels; only files that have a label then are counted, and each of them is, safe or not.
func TestKeepByNumbers(t *testing.T) {
	d := with(t, "z", "1.2345", "y", ".", "x", "1.2345", "w", ".12345")
	checkShown(t, "one for each", crashed(t, d, disk.Crash{Keep: []int{1, 9, 2, 3}}), "w", "123.", "x", "123.", "y", ".", "z", "12.")
	checkShown(t, "two in turn", crashed(t, d, disk.Crash{Keep: []int{1, 2}}), "w", "12.", "x", "12.", "y", ".", "z", "12.")
	checkShown(t, "three in turn", crashed(t, d, disk.Crash{Keep: []int{4, 0, 1}}), "w", "1234.", "x", "12.", "y", ".", "z", "12345.")
	must(t, d.Rename("z", "zz"), d.Remove("y"), d.Rename("w", "x"))
	for dir, want := range [][]string{
		{"w", "1234.", "x", "1234.", "y", ".", "z", "12."},
		{"w", "1234.", "x", "1234.", "y", ".", "zz", "12."},
		{"w", "123.", "x", "123.", "zz", "12."},
		{"x", "12.", "zz", "12."},
	} {
		checkShown(t, "Dir "+strconv.Itoa(dir), crashed(t, d, disk.Crash{Dir: dir, Keep: []int{1, 2, 3, 4}}), want...)
	}
}

// All that has survived is safe: another crash changes nothing.
func TestSurvivedIsSafe(t *testing.T) {
	d := with(t, "a", "abc.def", "b", ".xyz")
	must(t, d.Create("c"), d.Append("c", "new"), d.Rename("a", "d"))
	once := crashed(t, d, disk.Crash{Dir: 1, Keep: []int{1, 2, 3}})
	checkShown(t, "once", once, "a", "abcd.", "b", "xy.", "c", "new.")
	for dir := range 5 {
		checkShown(t, "twice", crashed(t, once, disk.Crash{Dir: dir, Keep: []int{dir}}), "a", "abcd.", "b", "xy.", "c", "new.")
	}
	// And what did not survive is not there any more.
	must(t, once.Create("d"), once.Append("a", "X"))
	checkShown(t, "gone on with", once, "a", "abcd.X", "b", "xy.", "c", "new.", "d", ".")
	if once.Free() != 1000-5-2-3 {
		t.Errorf("Free: %d", once.Free())
	}
}

// Files that are made behind a crash have numbers behind those of the ones that were there.
func TestNumbersBehindCrash(t *testing.T) {
	d := with(t, "b", ".12345")
	must(t, d.Create("gone"), d.Pull(disk.Crash{Keep: []int{-1}}), d.Restart())
	must(t, d.Append("b", "67890"), d.Create("a"), d.Append("a", "12345"), d.SyncDir())
	checkShown(t, "in the order of their numbers", crashed(t, d, disk.Crash{Keep: []int{1, 2}}), "a", "12.", "b", "123456.")
}

func TestPlan(t *testing.T) {
	for at := 1; at <= 6; at++ {
		for name, call := range countedCalls() {
			d := with(t, "a", "x.y")
			must(t, d.Plan(at, disk.Crash{Keep: []int{1}}))
			calls := d.Calls()
			for i := 1; i < at; i++ {
				if _, e := d.Size("none"); e != api.ErrNone || d.Down() {
					t.Fatalf("call %d of %d: %v, %v", i, at, e, d.Down())
				}
			}
			checkErr(t, name, call(d), api.ErrDown)
			checkShown(t, name+" has done nothing", d, "a", "x.y")
			if !d.Down() || d.Calls() != calls+at {
				t.Errorf("%s: %v, %d calls", name, d.Down(), d.Calls()-calls)
			}
			checkErr(t, name+" again", call(d), api.ErrDown)
			checkErr(t, "Pull", d.Pull(disk.Crash{}), api.ErrDown)
			must(t, d.Restart())
			checkShown(t, name+", up again", d, "a", "xy.")
			if d.Down() || d.Calls() != calls+at {
				t.Errorf("%s, up again: %v, %d calls", name, d.Down(), d.Calls()-calls)
			}
		}
	}
}

func sizes(d *disk.Disk, n int) {
	for range n {
		d.Size("a")
	}
}

func TestPlanAnew(t *testing.T) {
	d := with(t, "a", "x.y")
	must(t, d.Plan(3, disk.Crash{}))
	sizes(d, 2)
	must(t, d.Plan(2, disk.Crash{Keep: []int{1}}))
	sizes(d, 1)
	if d.Down() {
		t.Error("the first plan was not forgotten")
	}
	sizes(d, 1)
	if !d.Down() {
		t.Error("the second plan was forgotten")
	}
	must(t, d.Restart())
	checkShown(t, "with the second plan's crash", d, "a", "xy.")
	sizes(d, 10)
	must(t, d.Plan(1, disk.Crash{}), d.Plan(0, disk.Crash{}))
	sizes(d, 10)
	if d.Down() {
		t.Error("the plan was not forgotten")
	}
}

func TestPlanLimits(t *testing.T) {
	d := with(t, "a", "x.y")
	must(t, d.Plan(3, disk.Crash{Keep: []int{1}}))
	for _, at := range []int{-1, 1<<30 + 1, math.MinInt, math.MaxInt} {
		checkErr(t, "Plan "+strconv.Itoa(at), d.Plan(at, disk.Crash{}), api.ErrArg)
	}
	sizes(d, 3)
	if !d.Down() {
		t.Error("a plan that was refused has changed the one that there was")
	}
	must(t, d.Restart())
	checkShown(t, "with the first crash", d, "a", "xy.")
	must(t, d.Plan(1<<30-1, disk.Crash{}), d.Plan(1<<30, disk.Crash{}))
	sizes(d, 10)
	if d.Down() {
		t.Error("it went down too early")
	}
}

// What is planned is forgotten by Restart, whatever took the disk down, and whether it was planned ahead or while it was down; what took it down stays.
func TestRestartForgetsPlan(t *testing.T) {
	d := with(t, "a", "x.yz")
	must(t, d.Plan(3, disk.Crash{}), d.Pull(disk.Crash{Keep: []int{1}}))
	must(t, d.Plan(1, disk.Crash{Keep: []int{2}}))
	checkErr(t, "Plan while it is down", d.Plan(-1, disk.Crash{}), api.ErrArg)
	sizes(d, 3)
	must(t, d.Restart())
	checkShown(t, "with what it was pulled with", d, "a", "xy.")
	sizes(d, 5)
	if d.Down() {
		t.Error("a plan was not forgotten")
	}
	must(t, d.Append("a", "zzz"), d.Plan(1, disk.Crash{Keep: []int{1}}))
	sizes(d, 1)
	must(t, d.Plan(0, disk.Crash{Keep: []int{2}}))
	if !d.Down() {
		t.Error("Plan brought it up")
	}
	must(t, d.Restart())
	checkShown(t, "with what was planned first", d, "a", "xyz.")
}

func TestPullAndRestart(t *testing.T) {
	d := with(t, "a", "x.yz")
	checkErr(t, "Restart while it is up", d.Restart(), api.ErrDone)
	checkErr(t, "Pull", d.Pull(disk.Crash{Keep: []int{1}}), api.OK)
	checkErr(t, "Pull again", d.Pull(disk.Crash{Keep: []int{2}}), api.ErrDown)
	if !d.Down() {
		t.Error("it is up")
	}
	checkErr(t, "Restart", d.Restart(), api.OK)
	checkErr(t, "Restart again", d.Restart(), api.ErrDone)
	checkShown(t, "with the first crash", d, "a", "xy.")
	if d.Down() {
		t.Error("it is down")
	}
}

// A disk on which nothing ever was goes down and comes up too.
func TestCrashOfNothing(t *testing.T) {
	for _, d := range []*disk.Disk{made(t, 10), made(t, 10).Twin(), crashed(t, made(t, 10), disk.Crash{Dir: 3, Keep: []int{1}}), crashed(t, crashed(t, made(t, 10), disk.Crash{}), disk.Crash{})} {
		must(t, d.Pull(disk.Crash{Dir: -1, Keep: []int{-1}}), d.Restart(), d.SyncDir())
		checkList(t, d)
		must(t, d.Create("a"), d.Append("a", "x"), d.Sync("a"), d.SyncDir(), d.Pull(disk.Crash{}), d.Restart())
		checkShown(t, "gone on with", d, "a", "x.")
	}
}

// P5.4: Twin

func TestTwin(t *testing.T) {
	d := with(t, "a", "x.y", "b", "z.")
	must(t, d.Rename("b", "c"), d.Append("c", "!"), d.Plan(3, disk.Crash{Keep: []int{1}}))
	twin := d.Twin()
	checkShown(t, "the twin", twin, "a", "x.y", "c", "z.!")
	if twin.Free() != d.Free() || twin.Calls() != d.Calls() || twin.Down() {
		t.Errorf("%d, %d, %v", twin.Free(), twin.Calls(), twin.Down())
	}
	must(t, twin.Remove("a"), twin.Create("a"))
	must(t, twin.Corrupt("c", 0, "Z"), twin.Quota(3))
	checkShown(t, "the first one", d, "a", "x.y", "c", "z.!")
	if d.Free() != 996 || twin.Free() != 1 || twin.Calls() != d.Calls()+2 {
		t.Errorf("%d and %d free, %d and %d calls", d.Free(), twin.Free(), d.Calls(), twin.Calls())
	}
	sizes(twin, 1)
	if !twin.Down() || d.Down() {
		t.Errorf("down: the twin %v, the first one %v", twin.Down(), d.Down())
	}
	must(t, twin.Restart())
	checkShown(t, "the twin, up again", twin, "a", "xy.", "b", "Z!.")
	sizes(d, 3)
	again := d.Twin()
	must(t, d.Restart())
	checkShown(t, "the first one, up again", d, "a", "xy.", "b", "z!.")
	if !again.Down() {
		t.Error("the twin of one that is down is up")
	}
	must(t, again.Restart())
	checkShown(t, "the twin of one that is down", again, "a", "xy.", "b", "z!.")
}

// Bytes that come behind a file's, on a disk and on its twin, do not meet; nor do changes of the directory.
func TestTwinsGrowApart(t *testing.T) {
	d := with(t, "a", ".")
	for n := range 70 {
		must(t, d.Append("a", "x"), d.Create("n"+strconv.Itoa(n)))
		twin := d.Twin()
		must(t, twin.Append("a", "T"), twin.Create("t"), d.Append("a", "D"), d.Create("d"))
		size, _ := d.Size("a")
		checkRead(t, d, "a", size-2, 2, "xD", api.OK)
		checkRead(t, twin, "a", size-2, 2, "xT", api.OK)
		must(t, twin.Pull(disk.Crash{Dir: -1}), twin.Restart())
		if _, e := twin.Size("t"); e != api.OK {
			t.Errorf("with %d files: the twin's last change: %v", n, e)
		}
		must(t, d.Remove("d"))
	}
}

// R3

func TestCrashIsNotKept(t *testing.T) {
	d := with(t, "a", "x.yz")
	keep := []int{1, 7}
	must(t, d.Pull(disk.Crash{Keep: keep}))
	keep[0] = 2
	must(t, d.Restart())
	checkShown(t, "Pull", d, "a", "xy.")
	must(t, d.Append("a", "zz"))
	keep[0] = 1
	must(t, d.Plan(1, disk.Crash{Keep: keep}))
	keep[0] = 2
	sizes(d, 1)
	keep[0] = 0
	must(t, d.Restart())
	checkShown(t, "Plan", d, "a", "xyz.")
	if !slices.Equal(keep, []int{0, 7}) {
		t.Errorf("Keep was changed: %v", keep)
	}
}

// Keep ends where its length says, whatever room there is behind it.
func TestKeepEndsAtItsLength(t *testing.T) {
	d := with(t, "a", ".abc", "b", ".abc")
	long := []int{1, 2, 3}
	checkShown(t, "one number", crashed(t, d, disk.Crash{Keep: long[:1]}), "a", "a.", "b", "a.")
	checkShown(t, "no number", crashed(t, d, disk.Crash{Keep: long[:0]}), "a", ".", "b", ".")
}

func TestAnswersAreNew(t *testing.T) {
	d := with(t, "a", "x.y", "b", "z.")
	l, _ := d.List()
	for i := range l[:cap(l)] {
		l[:cap(l)][i] = "written"
	}
	files := d.Files()
	for i := range files[:cap(files)] {
		files[:cap(files)][i] = disk.File{Name: "written"}
	}
	checkList(t, d, "a", "b")
	checkShown(t, "Files", d, "a", "x.y", "b", "z.")
}

// P5.5 and P5.6

// randomDisk is one on which anything was done; what is told of it behind a crash is told by Files ahead of it.
func randomDisk(t *testing.T, r *rand.Rand) *disk.Disk {
	t.Helper()
	d := made(t, 1000)
	c := &choices{bytes: randomBytes(r, 300)}
	for !c.done() {
		both(d, newModel(1000), c)
	}
	d.Restart()
	must(t, d.Plan(0, disk.Crash{}), d.Quota(10000))
	for range r.Intn(8) {
		name := string(rune('a' + r.Intn(4)))
		switch r.Intn(4) {
		case 0:
			d.Create(name)
		case 1:
			d.Append(name, strings.Repeat(name, r.Intn(9)))
		case 2:
			d.Rename(name, string(rune('a'+r.Intn(4))))
		default:
			d.Remove(name)
		}
	}
	return d
}

func randomCrash(r *rand.Rand) disk.Crash {
	return (&choices{bytes: randomBytes(r, 10)}).crash()
}

func TestSafeStays(t *testing.T) {
	r := rand.New(rand.NewSource(5))
	for range 300 {
		d := randomDisk(t, r)
		for _, f := range d.Files() {
			must(t, d.Sync(f.Name))
		}
		must(t, d.SyncDir())
		want := d.Files()
		for range 10 {
			if got := crashed(t, d, randomCrash(r)).Files(); !slices.Equal(got, want) {
				t.Fatalf("%v, want %v", got, want)
			}
		}
	}
}

// Of files that are made safe with the directory, what comes behind that leaves them as they were, as long as no label is changed.
func TestSafeStaysBesideOthers(t *testing.T) {
	r := rand.New(rand.NewSource(6))
	for range 300 {
		d := randomDisk(t, r)
		files := d.Files()
		safe := map[string]string{}
		for i, f := range files {
			if i%2 == 0 {
				must(t, d.Sync(f.Name))
				safe[f.Name] = f.Data
			}
		}
		must(t, d.SyncDir())
		for _, f := range files {
			must(t, d.Append(f.Name, "behind"))
		}
		behind := crashed(t, d, randomCrash(r))
		for _, f := range behind.Files() {
			if !strings.HasPrefix(f.Data, safe[f.Name]) || f.Safe != len(f.Data) {
				t.Fatalf("%v, and %q was safe", f, safe[f.Name])
			}
		}
		if len(behind.Files()) != len(files) {
			t.Fatalf("%d files, and %d ahead", len(behind.Files()), len(files))
		}
	}
}

func TestPrefixes(t *testing.T) {
	r := rand.New(rand.NewSource(7))
	for range 300 {
		d := randomDisk(t, r)
		must(t, d.SyncDir())
		want := d.Files()
		for range 10 {
			got := crashed(t, d, randomCrash(r)).Files()
			if len(got) != len(want) {
				t.Fatalf("%v of %v", got, want)
			}
			for i, f := range got {
				if f.Name != want[i].Name || !strings.HasPrefix(want[i].Data, f.Data) || len(f.Data) < want[i].Safe || f.Safe != len(f.Data) {
					t.Fatalf("%v of %v", f, want[i])
				}
			}
		}
	}
}

func TestEverythingSurvives(t *testing.T) {
	r := rand.New(rand.NewSource(8))
	for range 300 {
		d := made(t, 10000)
		must(t, d.Create("first"), d.Append("first", "safe"), d.Sync("first"), d.SyncDir())
		changes := 0
		for range r.Intn(6) {
			switch name := fmt.Sprint("n", changes); r.Intn(3) {
			case 0:
				must(t, d.Create(name), d.Append(name, strings.Repeat("x", r.Intn(20))))
			case 1:
				must(t, d.Create("tmp"), d.Rename("tmp", name))
				changes++
			default:
				must(t, d.Create(name), d.Remove(name))
				changes++
			}
			changes++
		}
		want := d.Files()
		var keep []int
		numbered := crashed(t, d, disk.Crash{Dir: changes}).Files() // which labels survive
		if len(numbered) != len(want) {
			t.Fatalf("%d labels survive of %d", len(numbered), len(want))
		}
		keep = append(keep, 0) // first, which is safe
		for i := range changes {
			for _, f := range want {
				if f.Name == fmt.Sprint("n", i) {
					keep = append(keep, len(f.Data)-f.Safe)
				}
			}
		}
		got := crashed(t, d, disk.Crash{Dir: changes, Keep: keep}).Files()
		for i, f := range want {
			if f.Safe = len(f.Data); got[i] != f {
				t.Fatalf("%v, want %v", got[i], f)
			}
		}
	}
}

package find_test

import (
	"maps"
	"slices"
	"strconv"
	"strings"
	"testing"

	"muniment/api"
	"muniment/disk"
	"muniment/find"
)

func newDisk(t *testing.T, quota int64) *disk.Disk {
	t.Helper()
	d, e := disk.New(quota)
	if e != api.OK {
		t.Fatal(e)
	}
	return d
}

func checkWrite(t *testing.T, d *disk.Disk, label, data string, want api.Errno) {
	t.Helper()
	if e := find.Write(d, label, data); e != want {
		t.Errorf("Write of %q: %v, want %v", label, e, want)
	}
}

func checkWhole(t *testing.T, d *disk.Disk, label, want string, wantE api.Errno) {
	t.Helper()
	if s, e := find.Whole(d, label); s != want || e != wantE {
		t.Errorf("Whole of %q: %d bytes, %v; want %d, %v", label, len(s), e, len(want), wantE)
	}
}

func checkClean(t *testing.T, d *disk.Disk, want int, wantE api.Errno) {
	t.Helper()
	if n, e := find.Clean(d); n != want || e != wantE {
		t.Errorf("Clean: %d, %v; want %d, %v", n, e, want, wantE)
	}
}

func TestExampleWrite(t *testing.T) {
	d := newDisk(t, 100)
	checkWrite(t, d, "a", "x", api.OK)
	if l, e := d.List(); !slices.Equal(l, []string{"a"}) || e != api.OK {
		t.Errorf("List: %q, %v", l, e)
	}
	checkClean(t, d, 0, api.OK)
}

// P16.1

func TestWriteAndWhole(t *testing.T) {
	d := newDisk(t, 1<<20)
	labels := []string{"a", "0", ".", "-", "tmp-0", "tmp-3", "tmp-x", "pack-", strings.Repeat("z", 200)}
	for i, data := range []string{"x", "", "\x00\xff", strings.Repeat("long ", 5000), "y"} {
		for _, label := range labels {
			checkWrite(t, d, label, data+strconv.Itoa(i), api.OK)
			checkWhole(t, d, label, data+strconv.Itoa(i), api.OK)
		}
		checkLabels(t, "written", d, labels...)
	}
	checkWrite(t, d, "empty", "", api.OK)
	checkWhole(t, d, "empty", "", api.OK)
}

// The label under which a file stands beside is seen where the disk goes down as it is renamed.
func TestLabelBeside(t *testing.T) {
	for _, c := range []struct {
		there []string
		want  string
	}{
		{nil, "tmp-0"},
		{[]string{"a", "tmp", "tmp-", "tmp.1", "tmpx-8", "xtmp-8"}, "tmp-0"},
		{[]string{"tmp-0"}, "tmp-1"},
		{[]string{"tmp-1"}, "tmp-2"},
		{[]string{"tmp-9", "tmp-10", "tmp-2"}, "tmp-11"},
		{[]string{"tmp-7", "tmp-07", "tmp-008", "tmp-x", "tmp-8x", "tmp-9.", "tmp--9", "tmp--0", "tmp-00"}, "tmp-8"},
		{[]string{"tmp-00"}, "tmp-0"},
		{[]string{"tmp-1234567890", "tmp-99999999999999999999"}, "tmp-0"},
		{[]string{"tmp-123456789"}, "tmp-123456790"},
		{[]string{"tmp-999999999"}, "tmp-1000000000"},
	} {
		d := newDisk(t, 1000)
		for _, label := range c.there {
			d.Create(label)
		}
		d.Plan(5, disk.Crash{Dir: len(c.there) + 1})
		checkWrite(t, d, "written", "data", api.ErrDown)
		d.Restart()
		checkLabels(t, "down at the renaming", d, append(slices.Clone(c.there), c.want)...)
		checkWhole(t, d, c.want, "data", api.OK)
	}
}

// Where the label to write beside under is there already, because its number has too many digits to count, the disk says so.
func TestLabelBesideIsThere(t *testing.T) {
	d := newDisk(t, 1000)
	d.Create("tmp-999999999")
	checkWrite(t, d, "a", "x", api.OK)
	d.Create("tmp-1000000000")
	checkWrite(t, d, "a", "y", api.ErrThere)
	checkLabels(t, "there", d, "a", "tmp-1000000000", "tmp-999999999")
	checkWhole(t, d, "a", "x", api.OK)
}

// A written file is safe, but the directory is not made so.
func TestWriteMakesFileSafe(t *testing.T) {
	d := newDisk(t, 1000)
	checkWrite(t, d, "a", "one", api.OK)
	if l := d.Files(); len(l) != 1 || l[0] != (disk.File{Name: "a", Data: "one", Safe: 3}) {
		t.Errorf("there are %v", l)
	}
	d.SyncDir()
	checkWrite(t, d, "a", "other", api.OK)
	d.Pull(disk.Crash{})
	d.Restart()
	checkWhole(t, d, "a", "one", api.OK)
	checkWrite(t, d, "b", "two", api.OK)
	d.Pull(disk.Crash{Dir: 2})
	d.Restart()
	checkWhole(t, d, "b", "two", api.OK)
}

// A disk that goes down at any call of a Write has, whatever survives, the file as it was or as it is to be, and files beside.
func TestWriteGoesDown(t *testing.T) {
	for at := 1; at <= 6; at++ {
		for dir := range 5 {
			for keep := range 6 {
				d := laid(t, files{"a": "one", "b": "two", "tmp-4": "left"})
				d.Plan(at, disk.Crash{Dir: dir, Keep: []int{keep, 0, keep}})
				want := api.ErrDown
				if at == 6 {
					want = api.OK
				}
				checkWrite(t, d, "a", "other", want)
				if at == 6 {
					d.Pull(disk.Crash{Dir: dir, Keep: []int{keep, 0, keep}})
				}
				d.Restart()
				checkBeforeOrAfter(t, d)
			}
		}
	}
}

func checkBeforeOrAfter(t *testing.T, d *disk.Disk) {
	t.Helper()
	for label, data := range filesOf(d) {
		isKnown := label == "a" && (data == "one" || data == "other") || label == "b" && data == "two" || label == "tmp-4" && data == "left"
		if !isKnown && (label != "tmp-5" || !strings.HasPrefix("other", data)) {
			t.Errorf("there is %q with %q", label, data)
		}
	}
	checkWhole(t, d, "b", "two", api.OK)
	if _, e := find.Whole(d, "a"); e != api.OK {
		t.Errorf("a: %v", e)
	}
}

func TestClean(t *testing.T) {
	d := newDisk(t, 1000)
	others := []string{"a", "tmp", "xtmp-1", "tmp.1", "idx-tmp-", "pack-"}
	for _, label := range append([]string{"tmp-", "tmp-0", "tmp-12", "tmp-x", "tmp-tmp-", "tmp-1234567890123"}, others...) {
		d.Create(label)
	}
	checkClean(t, d, 6, api.OK)
	checkLabels(t, "cleaned", d, others...)
	checkClean(t, d, 0, api.OK)
	// The directory is not made safe by it.
	d = laid(t, files{"tmp-1": "x"})
	checkClean(t, d, 1, api.OK)
	d.Pull(disk.Crash{})
	d.Restart()
	checkLabels(t, "as it was safe", d, "tmp-1")
}

func TestCleanGoesDown(t *testing.T) {
	for at, want := range [][]string{1: {"a", "tmp-1", "tmp-2", "tmp-3"}, 2: {"a", "tmp-1", "tmp-2", "tmp-3"}, 3: {"a", "tmp-2", "tmp-3"}, 4: {"a", "tmp-3"}} {
		if at > 0 {
			d := laid(t, files{"a": "x", "tmp-1": "", "tmp-2": "y", "tmp-3": "z"})
			d.Plan(at, disk.Crash{})
			checkClean(t, d, 0, api.ErrDown)
			checkLabels(t, "cleaned in part", d, want...)
		}
	}
}

// The errors, in their order.

func TestWriteErrors(t *testing.T) {
	d := newDisk(t, 10)
	bad := []string{"", "A", "a b", "a/b", "\xff", "ä", "_", "a\x00", "tmp-A", strings.Repeat("z", 201)}
	for _, label := range bad {
		checkWrite(t, nil, label, "x", api.ErrNil)
		checkWrite(t, d, label, "more than there is room for", api.ErrName)
	}
	checkWrite(t, nil, "a", "x", api.ErrNil)
	if n := d.Calls(); n != 0 {
		t.Errorf("%d calls were made for labels that may not be", n)
	}
	d.Pull(disk.Crash{})
	for _, label := range bad {
		checkWrite(t, d, label, "x", api.ErrName)
	}
	checkWrite(t, d, "a", "x", api.ErrDown)
	checkClean(t, d, 0, api.ErrDown)
	checkWhole(t, d, "a", "", api.ErrDown)
	checkClean(t, nil, 0, api.ErrNil)
	checkWhole(t, nil, "", "", api.ErrNil)
	d.Restart()
	for _, label := range append(bad, "a") {
		checkWhole(t, d, label, "", api.ErrNone)
	}
}

func TestWriteWithoutRoom(t *testing.T) {
	d := newDisk(t, 10)
	checkWrite(t, d, "a", "01234", api.OK)
	checkWrite(t, d, "a", "012345", api.ErrFull)
	checkWrite(t, d, "b", "012345", api.ErrFull)
	checkLabels(t, "no room", d, "a")
	checkWhole(t, d, "a", "01234", api.OK)
	// Room is needed for both, though one goes.
	checkWrite(t, d, "a", "56789", api.OK)
	checkWhole(t, d, "a", "56789", api.OK)
	d.Quota(4)
	checkWrite(t, d, "b", "", api.ErrFull)
	checkLabels(t, "less room than is used", d, "a")
}

func TestWriteTooManyFiles(t *testing.T) {
	d := newDisk(t, 10)
	for i := range api.MaxFiles - 1 {
		d.Create("f" + strconv.Itoa(i))
	}
	checkWrite(t, d, "f0", "x", api.OK)
	checkWrite(t, d, "a", "y", api.OK)
	before := filesOf(d)
	checkWrite(t, d, "b", "z", api.ErrFull)
	checkWrite(t, d, "a", "z", api.ErrFull)
	if !maps.Equal(filesOf(d), before) {
		t.Error("a Write without room has changed something")
	}
}

// A disk that is full and goes down as the file beside is removed is down.
func TestWriteFullAndDown(t *testing.T) {
	d := laid(t, files{"a": "01234"})
	d.Quota(9)
	d.Plan(4, disk.Crash{Dir: 1, Keep: []int{0}})
	checkWrite(t, d, "b", "01234", api.ErrDown)
	d.Restart()
	checkLabels(t, "full and down", d, "a", "tmp-0")
	checkWhole(t, d, "tmp-0", "", api.OK)
}

// Bytes that no file may have are refused by the disk as an argument; what was made beside is not taken back then.
func TestWriteTooLarge(t *testing.T) {
	d := newDisk(t, disk.MaxQuota)
	checkWrite(t, d, "a", strings.Repeat("x", disk.MaxSize+1), api.ErrArg)
	checkLabels(t, "too large", d, "tmp-0")
	checkWhole(t, d, "tmp-0", "", api.OK)
	large := strings.Repeat("y", disk.MaxSize)
	checkWrite(t, d, "a", large, api.OK)
	checkWhole(t, d, "a", large, api.OK)
}

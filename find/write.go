package find

import (
	"strconv"
	"strings"

	"muniment/api"
	"muniment/disk"
)

// besideFront is what the labels begin with under which files are written beside.
const besideFront = "tmp-"

// maxBesideDigits is how many digits the number in such a label may have to have a say in the next one.
const maxBesideDigits = 9

// Write writes a file beside, and gives it its label.
func Write(d *disk.Disk, label, data string) api.Errno {
	if d == nil {
		return api.ErrNil
	}
	if !mayBeLabel(label) {
		return api.ErrName
	}
	labels, e := d.List()
	if e != api.OK {
		return e
	}
	beside := nextBeside(labels)
	if e := fill(d, beside, data); e != api.OK {
		return e
	}
	return d.Rename(beside, label)
}

// mayBeLabel asks a disk of its own, on which nothing stands: a label is refused by no other call, and d is not to be called for one that may not be.
func mayBeLabel(label string) bool {
	empty, _ := disk.New(0)
	return empty.Create(label) == api.OK
}

// nextBeside is the label under which the next file is written beside, where there are these labels.
func nextBeside(labels []string) string {
	next := 0
	for _, label := range labels {
		if n, isBeside := besideNumber(label); isBeside {
			next = max(next, n+1)
		}
	}
	return besideFront + strconv.Itoa(next)
}

// besideNumber is the number in a label, and whether it has a say in the next one.
func besideNumber(label string) (int, bool) {
	digits, hasFront := strings.CutPrefix(label, besideFront)
	if !hasFront || len(digits) > maxBesideDigits {
		return 0, false
	}
	n, err := strconv.Atoi(digits)
	// Signs and noughts ahead are read, too, but not written.
	return n, err == nil && n >= 0 && strconv.Itoa(n) == digits
}

// fill makes a file of these bytes, all of them safe; where there is no room it is gone again.
func fill(d *disk.Disk, label, data string) api.Errno {
	if e := d.Create(label); e != api.OK {
		return e
	}
	e := d.Append(label, data)
	if e == api.ErrFull {
		// A disk that goes down here is told ahead of one that is full, since the file is still there.
		if removed := d.Remove(label); removed != api.OK {
			return removed
		}
	}
	if e != api.OK {
		return e
	}
	return d.Sync(label)
}

// Clean removes what was left beside.
func Clean(d *disk.Disk) (int, api.Errno) {
	labels, e := d.List()
	if e != api.OK {
		return 0, e
	}
	left := withFront(labels, besideFront)
	for _, label := range left {
		if e := d.Remove(label); e != api.OK {
			return 0, e
		}
	}
	return len(left), api.OK
}

// Whole is a file's bytes.
func Whole(d *disk.Disk, label string) (string, api.Errno) {
	n, e := d.Size(label)
	if e != api.OK {
		return "", e
	}
	return d.Read(label, 0, n)
}

// withFront are the labels that begin so.
func withFront(labels []string, front string) []string {
	var l []string
	for _, label := range labels {
		if strings.HasPrefix(label, front) {
			l = append(l, label)
		}
	}
	return l
}

package disk

import (
	"maps"
	"slices"

	"muniment/api"
)

// Plan says at which of the calls to come the disk goes down, and what survives.
func (d *Disk) Plan(at int, c Crash) api.Errno {
	if d == nil {
		return api.ErrNil
	}
	if at < 0 || at > maxAt {
		return api.ErrArg
	}
	// While it is down no call takes it down, and Restart forgets what is planned; what took it down must stay.
	if !d.down {
		d.left, d.crash = at, c.copied()
	}
	return api.OK
}

// Pull takes the disk down at once.
func (d *Disk) Pull(c Crash) api.Errno {
	if d == nil {
		return api.ErrNil
	}
	if d.down {
		return api.ErrDown
	}
	d.down, d.crash = true, c.copied()
	return api.OK
}

// Down says whether it is down.
func (d *Disk) Down() bool { return d == nil || d.down }

// Restart brings it up again, with what has survived.
func (d *Disk) Restart() api.Errno {
	if d == nil {
		return api.ErrNil
	}
	if !d.down {
		return api.ErrDone
	}
	dir := directory{}
	maps.Copy(dir, d.safe)
	for _, c := range d.since[:modulo(d.crash.Dir, len(d.since)+1)] {
		c.do(dir)
	}
	files := map[int]file{}
	for i, n := range slices.Sorted(maps.Values(dir)) {
		files[n] = d.files[n].survived(d.crash.keep(i))
	}
	d.files, d.now, d.safe, d.since = files, dir, maps.Clone(dir), nil
	d.down, d.left, d.crash = false, 0, Crash{}
	return api.OK
}

// survived is what is left of a file, with so many of the bytes that are not safe as a crash says.
func (f file) survived(keep int) file {
	n := f.safe + modulo(keep, len(f.data)-f.safe+1)
	return file{slices.Clone(f.data[:n]), n}
}

// keep is the number by which it is told what the i-th file keeps.
func (c Crash) keep(i int) int {
	if len(c.Keep) == 0 {
		return 0
	}
	return c.Keep[i%len(c.Keep)]
}

// copied is the crash in memory of its own.
func (c Crash) copied() Crash { return Crash{c.Dir, slices.Clone(c.Keep)} }

// modulo is a number's rest, from 0 on.
func modulo(n, by int) int {
	r := n % by
	if r < 0 {
		r += by
	}
	return r
}

package disk

// directory says which file, by its number, each label names.
type directory map[string]int

// change is one of the directory. What it does hangs on no disk, so that a disk's twin may do it too.
type change struct {
	do   func(directory) // does it once more on another directory
	lost int             // the number of the file that has no label behind it; 0 if there is none
}

// change does a change, and keeps it: until it is safe, a crash may undo it, and those behind it.
func (d *Disk) change(c change) {
	c.do(d.now)
	d.since = append(d.since, c)
}

// madeLabel is the change by which a label comes to name a new file.
func madeLabel(name string, number int) change {
	return change{do: func(dir directory) { dir[name] = number }}
}

// movedLabel is the change by which a file's label becomes another one, which may have named a file.
func movedLabel(from, to string, lost int) change {
	return change{lost: lost, do: func(dir directory) {
		dir[to] = dir[from]
		delete(dir, from)
	}}
}

// goneLabel is the change by which a label goes.
func goneLabel(name string, lost int) change {
	return change{lost: lost, do: func(dir directory) { delete(dir, name) }}
}

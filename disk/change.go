package disk

import (
	"slices"

	"muniment/api"
)

// deed is what was last done to a file.
type deed int

const (
	none deed = iota
	appended
	written
	moved
	removed
	truncated
)

// Append puts bytes behind a file, which comes, if it is not there.
func (d *Disk) Append(name, s string) api.Errno {
	if e := d.named(name); e != api.OK {
		return e
	}
	return d.put(name, d.at(name).bytes, s, appended)
}

// Write lays a file's bytes.
func (d *Disk) Write(name, s string) api.Errno {
	if e := d.named(name); e != api.OK {
		return e
	}
	return d.put(name, "", s, written)
}

// put lays a file's bytes, those that stay and s behind them, if there is room.
func (d *Disk) put(name, stay, s string, how deed) api.Errno {
	if d.isFull(len(stay) + len(s) - len(d.at(name).bytes)) {
		return api.ErrFull
	}
	if d.struck() {
		return api.ErrDead
	}
	d.lay(name, content{there: true, bytes: stay + s}, how)
	return api.OK
}

// isFull tells whether there is no room for a file to grow by so many bytes; one that does not grow needs none.
func (d *Disk) isFull(more int) bool {
	return d.limited && more > 0 && more > d.room-d.Used()
}

// Move gives a file another name, in the place of what had it.
func (d *Disk) Move(name, to string) api.Errno {
	c, e := d.there(name)
	if e != api.OK {
		return e
	}
	if !Name(to) {
		return api.ErrName
	}
	if name == to {
		return api.ErrArg
	}
	if d.struck() {
		return api.ErrDead
	}
	d.lay(name, content{}, moved)
	d.lay(to, c, moved)
	return api.OK
}

// Remove takes a file away.
func (d *Disk) Remove(name string) api.Errno {
	if _, e := d.there(name); e != api.OK {
		return e
	}
	if d.struck() {
		return api.ErrDead
	}
	d.lay(name, content{}, removed)
	return api.OK
}

// Truncate cuts a file to so many bytes.
func (d *Disk) Truncate(name string, n int) api.Errno {
	c, e := d.there(name)
	if e != api.OK {
		return e
	}
	if n < 0 || n > len(c.bytes) {
		return api.ErrArg
	}
	if d.struck() {
		return api.ErrDead
	}
	d.lay(name, content{there: true, bytes: c.bytes[:n]}, truncated)
	return api.OK
}

// lay makes the file of a name what it is from now on; one that is gone, and was not sure to be there, is not kept.
func (d *Disk) lay(name string, c content, how deed) {
	i, found := d.place(name)
	if !found {
		d.files = slices.Insert(d.files, i, file{name: name})
	}
	d.files[i].is, d.files[i].last = c, how
	if d.files[i].gone() {
		d.files = slices.Delete(d.files, i, i+1)
	}
}

// Sync makes all files sure to be as they are.
func (d *Disk) Sync() api.Errno {
	if d.Dead() {
		return api.ErrDead
	}
	d.settle()
	return api.OK
}

// settle makes all files sure to be as they are, whether there is power or not.
func (d *Disk) settle() {
	for i, f := range d.files {
		d.files[i] = file{name: f.name, is: f.is, sure: f.is, last: none}
	}
	d.files = slices.DeleteFunc(d.files, func(f file) bool { return f.gone() })
}

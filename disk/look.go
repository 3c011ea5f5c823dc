package disk

import (
	"slices"

	"hawser/api"
)

// Read answers a file's bytes.
func (d *Disk) Read(name string) ([]byte, api.Errno) {
	b, err := d.find(name)
	if err != api.OK {
		return nil, err
	}
	return slices.Clone(b), api.OK
}

// Size answers how many bytes a file has.
func (d *Disk) Size(name string) (int, api.Errno) {
	b, err := d.find(name)
	return len(b), err
}

// Names answers the names of the files that are seen, rising.
func (d *Disk) Names() []string {
	if !d.isMade() {
		return nil
	}
	return d.seen.names()
}

// Free answers how many bytes of the room are left.
func (d *Disk) Free() int {
	if !d.isMade() {
		return 0
	}
	return d.free
}

// Acts answers how many acts there were.
func (d *Disk) Acts() int {
	if !d.isMade() {
		return 0
	}
	return d.acts
}

// Pending answers how many steps do not last yet.
func (d *Disk) Pending() int {
	if !d.isMade() {
		return 0
	}
	return d.pending
}

// Files answers the files that are seen, by rising names.
func (d *Disk) Files() []api.File {
	if !d.isMade() {
		return nil
	}
	return d.seen.list()
}

// Left answers the files as they would be, if the power failed and so many steps were kept.
func (d *Disk) Left(keep int) []api.File {
	if !d.isMade() {
		return nil
	}
	left := d.last.copied()
	left.doFirst(d.steps, keep)
	return left.list()
}

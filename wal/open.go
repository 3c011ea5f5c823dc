package wal

import (
	"slices"

	"hawser/api"
	"hawser/disk"
	"hawser/frame"
)

// Open answers the log in a file of a disk, as far as it is whole.
func Open(d *disk.Disk, name string) (*Log, api.Errno) {
	l := &Log{disk: d, name: name}
	if err := l.ask(l.look, l.sweep, l.load, l.settle); err != api.OK {
		return nil, err
	}
	l.lasting = len(l.records)
	return l, api.OK
}

// nextName is the name of the file in which new records stand while they are exchanged for all others.
func nextName(name string) string { return name + ".n" }

// look answers what is wrong with the disk, or with the names, ahead of all acts.
func (l *Log) look() api.Errno {
	for _, name := range []string{l.name, nextName(l.name)} {
		if _, err := l.disk.Size(name); err != api.OK && err != api.ErrDiskNone {
			return err
		}
	}
	return api.OK
}

// sweep takes away what a Start has left that did not come to its end.
func (l *Log) sweep() api.Errno {
	next := nextName(l.name)
	if !l.has(next) {
		return api.OK
	}
	return l.ask(one(l.disk.Remove, next))
}

// load takes up the file's records, and cuts off what stands behind the last whole one.
func (l *Log) load() api.Errno {
	l.there = l.has(l.name)
	if !l.there {
		return api.OK
	}
	b, err := l.disk.Read(l.name)
	if err != api.OK {
		return err
	}
	whole, err := l.take(b)
	if err != api.OK {
		return err
	}
	l.torn = len(b) - whole
	if l.torn == 0 {
		return api.OK
	}
	return l.ask(two(l.disk.Cut, l.name, whole))
}

// take takes up the records at the front of b, and answers how many bytes they have.
func (l *Log) take(b []byte) (int, api.Errno) {
	whole := 0
	for {
		f, n, err := frame.Decode(b[whole:])
		switch {
		case err != api.OK:
			return whole, api.OK // a crash has left a part of a frame
		case f.Type != recordType:
			return 0, api.ErrWalForm
		}
		l.records = append(l.records, f.Body)
		whole += n
	}
}

// settle has last what load and sweep have done, and all that was seen ahead of them.
func (l *Log) settle() api.Errno {
	if l.disk.Pending() == 0 { // a Remove and a Cut are steps, too
		return api.OK
	}
	return l.ask(l.disk.Sync)
}

func (l *Log) has(name string) bool { return slices.Contains(l.disk.Names(), name) }

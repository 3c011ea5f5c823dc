package wal_test

import (
	"encoding/binary"
	"fmt"
	"hash/crc32"
	"math"
	"math/rand"
	"slices"
	"strings"
	"testing"

	"hawser/api"
	"hawser/disk"
	"hawser/wal"
)

// The errors by their numbers, as the chapters have them.
const (
	errArg    api.Errno = 1
	errMade   api.Errno = 2
	errName   api.Errno = 120
	errNone   api.Errno = 121
	errThere  api.Errno = 122
	errRoom   api.Errno = 123
	errFail   api.Errno = 124
	errDown   api.Errno = 125
	errLong   api.Errno = 130
	errClosed api.Errno = 131
	errForm   api.Errno = 132
)

const (
	maxRecord = 1048576
	maxDisk   = 67108864
)

func TestNumbers(t *testing.T) {
	for got, want := range map[api.Errno]api.Errno{
		api.ErrArg: errArg, api.ErrMade: errMade, api.ErrDiskName: errName, api.ErrDiskNone: errNone, api.ErrDiskThere: errThere,
		api.ErrDiskRoom: errRoom, api.ErrDiskFail: errFail, api.ErrDiskDown: errDown,
		api.ErrWalLong: errLong, api.ErrWalClosed: errClosed, api.ErrWalForm: errForm,
	} {
		if got != want {
			t.Errorf("an error has the number %d, not %d", got, want)
		}
	}
	if api.MaxRecord != maxRecord {
		t.Error("MaxRecord:", api.MaxRecord)
	}
}

// Frames by chapter 4's table, with the library's sums.

func summed(s string) string {
	c := crc32.Checksum([]byte(s), crc32.MakeTable(crc32.Castagnoli))
	return string(binary.LittleEndian.AppendUint32([]byte(s), c))
}

// framed is the frame of a type, and of a body.
func framed(kind int, body string) string {
	n := len(body)
	return summed(summed(string([]byte{0x48, 0x57, byte(kind), byte(n), byte(n >> 8), byte(n >> 16)})) + body)
}

// logOf is the bytes of a log's file.
func logOf(records ...string) string {
	var b strings.Builder
	for _, r := range records {
		b.WriteString(framed(1, r))
	}
	return b.String()
}

// unframed is the type and the body of the frame at the front of s, and how many bytes it has; 0: none is whole there.
func unframed(s string) (int, string, int) {
	if len(s) < 14 || summed(s[:6]) != s[:10] || s[:2] != "HW" || s[2] == 0 {
		return 0, "", 0
	}
	n := int(s[3]) + int(s[4])<<8 + int(s[5])<<16
	if n > maxRecord || len(s) < n+14 || summed(s[:n+10]) != s[:n+14] {
		return 0, "", 0
	}
	return int(s[2]), s[10 : n+10], n + 14
}

func file(name, data string) api.File { return api.File{Name: name, Data: []byte(data)} }

func made(t *testing.T, room int, files ...api.File) *disk.Disk {
	t.Helper()
	d, e := disk.New(room, files...)
	if e != 0 {
		t.Fatalf("a disk of %d bytes: %d", room, e)
	}
	return d
}

func opened(t *testing.T, d *disk.Disk, name string) *wal.Log {
	t.Helper()
	l, e := wal.Open(d, name)
	if e != 0 || l == nil {
		t.Fatalf("Open of %.70q: %d", name, e)
	}
	return l
}

func text(l []api.File) string {
	var b strings.Builder
	for _, f := range l {
		fmt.Fprintf(&b, "%s:%q ", f.Name, f.Data)
	}
	return b.String()
}

// has: the disk's files that are seen are just these.
func has(t *testing.T, d *disk.Disk, files ...api.File) {
	t.Helper()
	if got, want := text(d.Files()), text(files); got != want {
		t.Fatalf("files: %.300s, want %.300s", got, want)
	}
}

// seen is the bytes of one file.
func seen(d *disk.Disk, name string) string {
	for _, f := range d.Files() {
		if f.Name == name {
			return string(f.Data)
		}
	}
	return "no such file"
}

// all is a log's records.
func all(t *testing.T, l *wal.Log) []string {
	t.Helper()
	list := make([]string, l.Len())
	for i := range list {
		b, e := l.Record(i)
		if e != 0 {
			t.Fatalf("Record(%d) of %d: %d", i, l.Len(), e)
		}
		list[i] = string(b)
	}
	for _, i := range []int{math.MinInt, -1, l.Len(), l.Len() + 1, math.MaxInt} {
		if b, e := l.Record(i); e != errArg || len(b) != 0 {
			t.Fatalf("Record(%d) of %d: %d bytes, %d", i, l.Len(), len(b), e)
		}
	}
	return list
}

// tells: of a log that was opened with so many bytes torn, all but the power.
func tells(t *testing.T, l *wal.Log, torn, lasting int, records ...string) {
	t.Helper()
	if got := all(t, l); !slices.Equal(got, records) {
		t.Fatalf("records: %.300q, want %.300q", got, records)
	}
	if l.Lasting() != lasting || l.Torn() != torn {
		t.Fatalf("Lasting, Torn: %d, %d, want %d, %d", l.Lasting(), l.Torn(), lasting, torn)
	}
}

// shut: each call that needs an open log answers ErrWalClosed, whatever it is given, and nothing is asked of the disk.
func shut(t *testing.T, d *disk.Disk, l *wal.Log) {
	t.Helper()
	files, acts, list, lasting, torn := text(d.Files()), d.Acts(), all(t, l), l.Lasting(), l.Torn()
	for range 2 {
		for _, record := range []string{"", "x", strings.Repeat("x", maxRecord+1)} {
			if n, e := l.Append([]byte(record)); n != 0 || e != errClosed {
				t.Fatalf("Append: %d, %d", n, e)
			}
			if e := l.Start([]byte(record)); e != errClosed {
				t.Fatalf("Start: %d", e)
			}
		}
		if a, b, c := l.Start(), l.Sync(), l.Close(); a != errClosed || b != errClosed || c != errClosed {
			t.Fatalf("Start, Sync, Close: %d, %d, %d", a, b, c)
		}
	}
	if text(d.Files()) != files || d.Acts() != acts {
		t.Fatal("a log that is shut has asked something of the disk")
	}
	tells(t, l, torn, lasting, list...)
}

func lists(records []string) [][]byte {
	l := make([][]byte, len(records))
	for i, r := range records {
		l[i] = []byte(r)
	}
	return l
}

// op is a call on a log, or on its disk.
type op struct {
	what    string
	records []string
	n       int
}

func (o op) String() string { return fmt.Sprintf("%s(%.60q, %d)", o.what, o.records, o.n) }

func lay(record string) op       { return op{what: "append", records: []string{record}} }
func sync() op                   { return op{what: "sync"} }
func begin(records ...string) op { return op{what: "start", records: records} }
func end() op                    { return op{what: "close"} }
func reopen() op                 { return op{what: "open"} }
func fail(n int) op              { return op{what: "fail", n: n} }
func crash(keep int) op          { return op{what: "crash", n: keep} }
func power() op                  { return op{what: "power"} }
func (o op) isCall() bool        { return slices.Contains([]string{"append", "sync", "start"}, o.what) }
func onDisk(d *disk.Disk, o op) { // what is no call on a log
	switch o.what {
	case "fail":
		d.Fail(o.n)
	case "crash":
		d.Crash(o.n)
	case "power":
		d.Start()
	}
}

// on does the call: a number, and an error.
func (o op) on(l *wal.Log) (int, api.Errno) {
	switch o.what {
	case "append":
		return l.Append([]byte(o.records[0]))
	case "sync":
		return 0, l.Sync()
	case "start":
		return 0, l.Start(lists(o.records)...)
	case "close":
		return 0, l.Close()
	}
	return 0, 0
}

// model is the chapter, taken by its words, over a disk of its own.
type model struct {
	d       *disk.Disk
	name    string
	there   bool
	records []string
	lasting int
	torn    int
	closed  bool
}

func modelOf(d *disk.Disk, name string) (*model, api.Errno) {
	m := &model{d: d, name: name}
	for _, s := range []string{name, name + ".n"} {
		if _, e := d.Size(s); e == errMade || e == errDown || e == errName {
			return nil, e
		}
	}
	must := d.Pending() > 0
	if slices.Contains(d.Names(), name+".n") {
		must = true
		if e := d.Remove(name + ".n"); e != 0 {
			return nil, e
		}
	}
	if slices.Contains(d.Names(), name) {
		m.there = true
		rest := seen(d, name)
		size := len(rest)
		for kind, body, n := unframed(rest); n > 0; kind, body, n = unframed(rest) {
			if kind != 1 {
				return nil, errForm
			}
			m.records = append(m.records, body)
			rest = rest[n:]
		}
		if m.torn = len(rest); m.torn > 0 {
			must = true
			if e := d.Cut(name, size-m.torn); e != 0 {
				return nil, e
			}
		}
	}
	if must {
		if e := d.Sync(); e != 0 {
			return nil, e
		}
	}
	m.lasting = len(m.records)
	return m, 0
}

// do does a call on the model: a number, and an error.
func (m *model) do(o op) (int, api.Errno) {
	switch {
	case m.closed:
		return 0, errClosed
	case o.what == "close":
		m.closed = true
		return 0, 0
	case slices.ContainsFunc(o.records, func(r string) bool { return len(r) > maxRecord }):
		return 0, errLong
	case o.what == "sync" && m.lasting == len(m.records):
		return 0, 0
	}
	if e := m.acts(o); e != 0 {
		m.closed = true
		return 0, e
	}
	switch o.what {
	case "append":
		m.records = append(m.records, o.records[0])
		return len(m.records) - 1, 0
	case "start":
		m.records = slices.Clone(o.records)
	}
	m.lasting = len(m.records)
	return 0, 0
}

// acts does a call's acts of the disk.
func (m *model) acts(o op) api.Errno {
	switch o.what {
	case "append":
		if !m.there {
			if e := m.d.Create(m.name); e != 0 {
				return e
			}
			m.there = true
		}
		return m.d.Append(m.name, []byte(logOf(o.records[0])))
	case "start":
		if e := m.d.Create(m.name + ".n"); e != 0 {
			return e
		}
		if e := m.d.Append(m.name+".n", []byte(logOf(o.records...))); e != 0 {
			return e
		}
		if e := m.d.Rename(m.name+".n", m.name); e != 0 {
			return e
		}
		m.there = true
	}
	return m.d.Sync()
}

// pair is a log and its model, each over a disk of its own, made alike.
type pair struct {
	d    *disk.Disk
	l    *wal.Log
	m    *model
	name string
}

func pairOf(t *testing.T, room int, name string, files ...api.File) *pair {
	t.Helper()
	p := &pair{d: made(t, room, files...), m: &model{d: made(t, room, files...)}, name: name}
	p.play(t, reopen())
	return p
}

// play: each call is answered as the model answers it, and leaves the log and the disk as they are there.
func (p *pair) play(t *testing.T, ops ...op) {
	t.Helper()
	for _, o := range ops {
		switch {
		case o.what == "open":
			p.open(t)
		case o.isCall() || o.what == "close":
			p.call(t, o)
		default:
			onDisk(p.d, o)
			onDisk(p.m.d, o)
		}
		p.alike(t, o)
	}
}

// open: the pair goes on with the new log, if there is one, else with the old one.
func (p *pair) open(t *testing.T) {
	t.Helper()
	l, e := wal.Open(p.d, p.name)
	m, want := modelOf(p.m.d, p.name)
	if e != want || (l != nil) != (e == 0) {
		t.Fatalf("Open(%.70q): %d, want %d", p.name, e, want)
	}
	if e == 0 {
		p.l, p.m = l, m
	}
}

func (p *pair) call(t *testing.T, o op) {
	t.Helper()
	if p.l == nil {
		return
	}
	n, e := o.on(p.l)
	if want, wantE := p.m.do(o); n != want || e != wantE {
		t.Fatalf("%v: %d, %d, want %d, %d", o, n, e, want, wantE)
	}
}

func (p *pair) alike(t *testing.T, o op) {
	t.Helper()
	a, b := p.d, p.m.d
	if got, want := text(a.Files()), text(b.Files()); got != want {
		t.Fatalf("behind %v: files %.300s, want %.300s", o, got, want)
	}
	if a.Acts() != b.Acts() || a.Pending() != b.Pending() || a.Free() != b.Free() || a.Down() != b.Down() {
		t.Fatalf("behind %v: acts, steps, room, power: %d %d %d %v, want %d %d %d %v", o, a.Acts(), a.Pending(), a.Free(), a.Down(), b.Acts(), b.Pending(), b.Free(), b.Down())
	}
	for k := 0; k <= a.Pending(); k += 1 + a.Pending()/20 {
		if text(a.Left(k)) != text(b.Left(k)) {
			t.Fatalf("behind %v: a crash that keeps %d leaves %.300s, want %.300s", o, k, text(a.Left(k)), text(b.Left(k)))
		}
	}
	if p.l != nil {
		tells(t, p.l, p.m.torn, p.m.lasting, p.m.records...)
	}
}

func someRecord(r *rand.Rand) string {
	b := make([]byte, r.Intn(4)*r.Intn(6))
	r.Read(b)
	switch r.Intn(8) {
	case 0:
		return framed(1+r.Intn(3), string(b)) // a record may hold what stands in a file
	case 1:
		return "HW"
	}
	return string(b)
}

func someRecords(r *rand.Rand) []string {
	l := make([]string, r.Intn(4))
	for i := range l {
		l[i] = someRecord(r)
	}
	return l
}

// someCall is one of the calls that write.
func someCall(r *rand.Rand) op {
	switch r.Intn(10) {
	case 0, 1:
		return sync()
	case 2:
		return begin(someRecords(r)...)
	}
	return lay(someRecord(r))
}

// someOp is any call, on the log or on its disk.
func someOp(r *rand.Rand) op {
	switch r.Intn(20) {
	case 0:
		return end()
	case 1, 2:
		return reopen()
	case 3:
		return fail(r.Intn(6) - 1)
	case 4:
		return crash(r.Intn(60) - 2)
	case 5, 6:
		return power()
	}
	return someCall(r)
}

func some(n int, one func() op) []op {
	l := make([]op, n)
	for i := range l {
		l[i] = one()
	}
	return l
}

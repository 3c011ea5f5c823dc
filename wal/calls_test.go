package wal_test

import (
	"math/rand"
	"strings"
	"testing"
)

// P13.2: the file is made by the first Append; each record is a frame behind the others; nothing lasts by it.
func TestAppend(t *testing.T) {
	d := made(t, 1000)
	l := opened(t, d, "log")
	var so []string
	for i, r := range []string{"", "a", "bc", "", framed(1, "inner"), framed(2, "inner"), "\x00\xff", "HW"} {
		acts := d.Acts()
		n, e := l.Append([]byte(r))
		if n != i || e != 0 {
			t.Fatalf("Append(%q): %d, %d, want %d", r, n, e, i)
		}
		if want := map[bool]int{true: 2, false: 1}[i == 0]; d.Acts() != acts+want {
			t.Fatalf("Append(%q): %d acts, want %d", r, d.Acts()-acts, want)
		}
		so = append(so, r)
		tells(t, l, 0, 0, so...)
		has(t, d, file("log", logOf(so...)))
		if d.Pending() != 1+len(logOf(so...)) || len(d.Left(0)) != 0 {
			t.Fatal("Append has something last")
		}
	}
}

// The file is there already: none is made.
func TestAppendToAFile(t *testing.T) {
	for _, records := range [][]string{{}, {"x"}, {"x", ""}} {
		d := made(t, 500, file("a", logOf(records...)))
		l := opened(t, d, "a")
		for i := range 3 {
			if n, e := l.Append([]byte("new")); n != len(records)+i || e != 0 || d.Acts() != i+1 {
				t.Fatalf("Append: %d, %d, %d acts", n, e, d.Acts())
			}
		}
		tells(t, l, 0, len(records), append(records, "new", "new", "new")...)
	}
}

// A record of MaxRecord bytes is taken, a longer one is not, and the log goes on.
func TestLongest(t *testing.T) {
	long := strings.Repeat("r", maxRecord)
	p := pairOf(t, maxDisk, "a")
	p.call(t, lay(long+"!"))
	if n, e := p.l.Append([]byte(long + "!")); n != 0 || e != errLong || p.d.Acts() != 0 {
		t.Fatal("Append of a record that is too long:", n, e)
	}
	if n, e := p.l.Append([]byte(long)); n != 0 || e != 0 {
		t.Fatal("Append of the longest record:", n, e)
	}
	if n, e := p.l.Append(make([]byte, 4*maxRecord)); n != 0 || e != errLong || p.d.Acts() != 2 {
		t.Fatal("Append of a record that is far too long:", n, e)
	}
	if n, e := p.l.Append(nil); n != 1 || e != 0 {
		t.Fatal("Append behind it:", n, e)
	}
	tells(t, p.l, 0, 0, long, "")
	if e := p.l.Sync(); e != 0 {
		t.Fatal(e)
	}
	for _, records := range [][]string{{long + "!"}, {"x", long + "!"}, {long + "!", "x"}, {long, long + "!", long}} {
		acts := p.d.Acts()
		if e := p.l.Start(lists(records)...); e != errLong || p.d.Acts() != acts {
			t.Fatal("Start with a record that is too long:", e)
		}
		tells(t, p.l, 0, 2, long, "")
	}
	if e := p.l.Start(lists([]string{long, "x", long})...); e != 0 {
		t.Fatal("Start with the longest records:", e)
	}
	tells(t, p.l, 0, 3, long, "x", long)
	tells(t, opened(t, p.d, "a"), 0, 3, long, "x", long)
}

// P13.3: one Sync of the disk, if a record does not last; else the disk is not asked, not even with its power off.
func TestSync(t *testing.T) {
	d := made(t, 500, file("a", logOf("x")))
	l := opened(t, d, "a")
	quiet := func(what string) {
		t.Helper()
		acts := d.Acts()
		d.Fail(1)
		if e := l.Sync(); e != 0 || d.Acts() != acts {
			t.Fatalf("Sync %s: %d, %d acts", what, e, d.Acts()-acts)
		}
		d.Fail(0)
	}
	quiet("behind Open")
	d.Create("other")
	quiet("when another file has steps")
	for i := range 3 {
		l.Append([]byte("y"))
		tells(t, l, 0, 1+i, append([]string{"x"}, strings.Split(strings.Repeat("y", i+1), "")...)...)
		if e := l.Sync(); e != 0 || d.Pending() != 0 || l.Lasting() != 2+i {
			t.Fatalf("Sync: %d, %d last", e, l.Lasting())
		}
		quiet("behind Sync")
	}
	l.Append([]byte("y"))
	d.Sync() // what another one syncs is not known to the log
	if l.Lasting() != 4 {
		t.Error("Lasting behind the disk's own Sync:", l.Lasting())
	}
	if acts := d.Acts(); l.Sync() != 0 || d.Acts() != acts+1 || l.Lasting() != 5 {
		t.Error("Sync behind the disk's own")
	}
	l.Start()
	quiet("behind Start of no records")
	l.Start([]byte("z"))
	quiet("behind Start")
	d.Crash(0)
	if e := l.Sync(); e != 0 {
		t.Error("Sync with the power off, and nothing to do:", e)
	}
	d.Start()
	if n, e := l.Append([]byte("w")); n != 1 || e != 0 {
		t.Error("Append behind it:", n, e)
	}
}

// P13.4: four acts, and just these records, all of which last.
func TestStart(t *testing.T) {
	for _, first := range []func(*pair){
		func(p *pair) {},
		func(p *pair) { p.play(t, lay("a"), lay("bc")) },
		func(p *pair) { p.play(t, lay("a"), sync(), lay("bc")) },
		func(p *pair) { p.play(t, begin("a", "", "bc")) },
		func(p *pair) { p.play(t, lay("a"), begin()) },
	} {
		for _, records := range [][]string{{}, {""}, {"x"}, {"x", "yz", "", "x"}, {"", ""}, {framed(1, "q"), framed(2, "q")}} {
			p := pairOf(t, 1000, "log")
			first(p)
			acts := p.d.Acts()
			p.play(t, begin(records...))
			tells(t, p.l, 0, len(records), records...)
			has(t, p.d, file("log", logOf(records...)))
			if p.d.Acts() != acts+4 || p.d.Pending() != 0 {
				t.Fatalf("Start(%q): %d acts, %d steps are left", records, p.d.Acts()-acts, p.d.Pending())
			}
			if n, e := p.l.Append([]byte("new")); n != len(records) || e != 0 || p.d.Acts() != acts+5 {
				t.Fatalf("Append behind Start(%q): %d, %d, %d acts", records, n, e, p.d.Acts()-acts)
			}
			has(t, p.d, file("log", logOf(append(records, "new")...)))
			if p.l.Lasting() != len(records) {
				t.Fatal("Lasting:", p.l.Lasting())
			}
		}
	}
}

// A record that is handed in as nil is one without bytes; no records are none.
func TestNilRecords(t *testing.T) {
	d := made(t, 500)
	l := opened(t, d, "a")
	if n, e := l.Append(nil); n != 0 || e != 0 {
		t.Fatal("Append(nil):", n, e)
	}
	tells(t, l, 0, 0, "")
	if e := l.Start(nil, []byte{}); e != 0 {
		t.Fatal(e)
	}
	tells(t, l, 0, 2, "", "")
	if e := l.Start([][]byte(nil)...); e != 0 {
		t.Fatal(e)
	}
	tells(t, l, 0, 0)
	has(t, d, file("a", ""))
}

// P13.6: what Open cut off is told ever after; a log that is closed tells what it told, and asks nothing.
func TestClose(t *testing.T) {
	for _, ops := range [][]op{{}, {lay("y")}, {lay("y"), sync()}, {lay("y"), sync(), lay("z")}, {begin("q")}, {begin()}} {
		p := pairOf(t, 500, "a", file("a", logOf("x")+"torn"))
		p.play(t, ops...)
		acts, pending := p.d.Acts(), p.d.Pending()
		p.d.Fail(1)
		if e := p.l.Close(); e != 0 || p.d.Acts() != acts || p.d.Pending() != pending || p.l.Torn() != 4 {
			t.Fatalf("Close: %d, Torn %d", e, p.l.Torn())
		}
		p.m.do(end())
		tells(t, p.l, p.m.torn, p.m.lasting, p.m.records...)
		shut(t, p.d, p.l)
		p.d.Crash(0)
		shut(t, p.d, p.l)
	}
	d := made(t, 99)
	l := opened(t, d, "a")
	d.Crash(0)
	if e := l.Close(); e != 0 {
		t.Error("Close with the power off:", e)
	}
}

// All calls in any order, with failures and crashes, held against the chapter's words.
func TestAnyCalls(t *testing.T) {
	for seed := range 1500 {
		r := rand.New(rand.NewSource(int64(seed)))
		room := []int{30, 90, 200, 2000}[seed%4]
		p := pairOf(t, room, "log")
		p.play(t, some(40, func() op { return someOp(r) })...)
	}
}

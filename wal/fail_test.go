package wal_test

import (
	"math/rand"
	"testing"

	"hawser/api"
)

// P13.5: each act of each call fails: the call answers it, the log has failed, and tells what it told ahead of it.
func TestEachActFails(t *testing.T) {
	for i, c := range []struct {
		ahead []op
		call  op
		acts  int
	}{
		{nil, lay("x"), 2},
		{[]op{lay("a")}, lay("x"), 1},
		{[]op{lay("a"), sync(), lay("b")}, lay("x"), 1},
		{[]op{begin()}, lay("x"), 1},
		{[]op{lay("a")}, sync(), 1},
		{[]op{lay("a"), sync(), lay("b")}, sync(), 1},
		{[]op{begin("a", "b"), lay("c")}, sync(), 1},
		{nil, begin(), 4},
		{nil, begin("x", "y"), 4},
		{[]op{lay("a")}, begin("x"), 4},
		{[]op{lay("a"), sync(), lay("b")}, begin(), 4},
		{[]op{begin("a", "b"), lay("c")}, begin("x"), 4},
	} {
		for n := range c.acts {
			p := pairOf(t, 500, "a")
			p.play(t, c.ahead...)
			told, lasting, acts := all(t, p.l), p.l.Lasting(), p.d.Acts()
			p.play(t, fail(n+1))
			if _, e := c.call.on(p.l); e != errFail || p.d.Acts() != acts+n+1 {
				t.Fatalf("row %d, act %d: %d, %d acts", i, n, e, p.d.Acts()-acts)
			}
			p.m.do(c.call)
			tells(t, p.l, 0, lasting, told...)
			shut(t, p.d, p.l)
			p.play(t, c.call, reopen(), c.call, reopen())
		}
		p := pairOf(t, 500, "a")
		p.play(t, c.ahead...)
		p.play(t, fail(c.acts+1), c.call)
		if p.m.closed {
			t.Fatalf("row %d: there are more than %d acts", i, c.acts)
		}
	}
}

// Errors of the disk other than a failure to come are such errors as well.
func TestOtherErrorsFail(t *testing.T) {
	for i, c := range []struct {
		room  int
		ahead []op
		call  op
		want  api.Errno
	}{
		{2, nil, lay(""), errRoom},                         // the name
		{16, nil, lay(""), errRoom},                        // the name is there then, the frame is not
		{32, []op{lay("a")}, lay("b"), errRoom},            // 3 + 15 + 15
		{4, nil, begin(), errRoom},                         // the name with .n
		{19, nil, begin("a"), errRoom},                     // its frame
		{37, []op{lay("a")}, begin("b"), errRoom},          // beside the old one: 3 + 15 + 5 + 15
		{500, []op{crash(0)}, lay("a"), errDown},           //
		{500, []op{crash(0)}, begin(), errDown},            //
		{500, []op{lay("a"), crash(9)}, sync(), errDown},   //
		{500, []op{lay("a"), crash(9)}, lay("b"), errDown}, //
	} {
		p := pairOf(t, c.room, "log")
		p.play(t, c.ahead...)
		told, lasting := all(t, p.l), p.l.Lasting()
		if _, e := c.call.on(p.l); e != c.want {
			t.Fatalf("row %d: %d, want %d", i, e, c.want)
		}
		p.m.do(c.call)
		p.alike(t, c.call)
		tells(t, p.l, 0, lasting, told...)
		shut(t, p.d, p.l)
		p.play(t, power(), reopen())
	}
}

// The room that is just enough.
func TestJustRoom(t *testing.T) {
	p := pairOf(t, 18, "log")
	p.play(t, lay("a"), sync())
	tells(t, p.l, 0, 1, "a")
	p = pairOf(t, 33, "log")
	p.play(t, lay("a"), lay("b"))
	tells(t, p.l, 0, 0, "a", "b")
	p = pairOf(t, 20, "log")
	p.play(t, begin("a"))
	tells(t, p.l, 0, 1, "a")
	p = pairOf(t, 38, "log")
	p.play(t, lay("a"), begin("b"))
	tells(t, p.l, 0, 1, "b")
}

// Another one has written to the log's files: errors of the disk, as they are.
func TestMeddledWith(t *testing.T) {
	d := made(t, 500)
	l := opened(t, d, "a")
	d.Create("a")
	if n, e := l.Append([]byte("x")); n != 0 || e != errThere {
		t.Error("Append, and the file is there:", n, e)
	}
	shut(t, d, l)
	l = opened(t, d, "a")
	d.Remove("a")
	if n, e := l.Append([]byte("x")); n != 0 || e != errNone {
		t.Error("Append, and the file is gone:", n, e)
	}
	shut(t, d, l)
	l = opened(t, d, "a")
	d.Create("a.n")
	if e := l.Start(); e != errThere {
		t.Error("Start, and the file with .n is there:", e)
	}
	shut(t, d, l)
}

// P13.8: opened again without a crash, by any road, a log has the records that it had.
func TestOpenedAgain(t *testing.T) {
	for seed := range 2000 {
		r := rand.New(rand.NewSource(int64(seed)))
		d := made(t, []int{60, 150, 1000}[seed%3])
		l := opened(t, d, "a")
		var open [][]string // what the next log may have
		for range 12 {
			had := all(t, l)
			if r.Intn(6) == 0 {
				d.Fail(1 + r.Intn(4))
			}
			o := someCall(r)
			_, e := o.on(l)
			open = [][]string{all(t, l)}
			if e != 0 {
				open = [][]string{had}
				switch o.what {
				case "append":
					open = append(open, append(had, o.records[0]))
				case "start":
					open = append(open, o.records)
				}
			}
			if e == 0 && r.Intn(4) > 0 {
				continue
			}
			if r.Intn(2) == 0 {
				l.Close()
			}
			d.Fail(0)
			l = opened(t, d, "a")
			if !among(all(t, l), open) || l.Torn() != 0 || l.Lasting() != l.Len() {
				t.Fatalf("seed %d, behind %v: %.300q, want one of %.300q", seed, o, all(t, l), open)
			}
		}
	}
}

// An Open that failed in the midst: the next one has the same records.
func TestOpenedAgainBehindOpen(t *testing.T) {
	for n := 1; n < 5; n++ {
		d := made(t, 500, file("a", logOf("x", "y")+"torn"), file("a.n", logOf("z")))
		d.Fail(n)
		p := &pair{d: d, m: &model{d: made(t, 500, d.Files()...)}, name: "a"}
		p.m.d.Fail(n)
		p.play(t, reopen(), reopen(), reopen())
		tells(t, p.l, 0, 2, "x", "y")
	}
}

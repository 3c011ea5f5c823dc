package wal_test

import (
	"math/rand"
	"slices"
	"testing"

	"hawser/api"
	"hawser/disk"
	"hawser/wal"
)

func among(list []string, lists [][]string) bool {
	return slices.ContainsFunc(lists, func(l []string) bool { return slices.Equal(l, list) })
}

// may keeps, by P13.7's words, what a crash may leave of a log.
type may struct {
	lists [][]string
}

// behind takes in a call that was made: the records behind it, and those of a Start that did not come through.
func (m *may) behind(o op, e api.Errno, records []string) {
	switch {
	case e == 0 && o.what != "append":
		m.lists = [][]string{records}
	case e == 0:
		m.lists = append(m.lists, records)
	case e != errClosed && o.what == "start":
		m.lists = append(m.lists, o.records)
	}
}

// P13.7: any calls, some of which fail, then a crash at every step.
func TestCrashAtEveryStep(t *testing.T) {
	left := map[string]int{}
	for seed := range 400 {
		r := rand.New(rand.NewSource(int64(seed)))
		room := []int{80, 200, 2000}[seed%3]
		d := made(t, room)
		l := opened(t, d, "a")
		m := may{[][]string{nil}}
		for range 10 {
			if r.Intn(8) == 0 {
				d.Fail(1 + r.Intn(5))
			}
			o := someCall(r)
			_, e := o.on(l)
			m.behind(o, e, all(t, l))
			if e != 0 {
				left[o.what]++
			}
			for keep := 0; keep <= d.Pending(); keep++ {
				crashed := made(t, room, d.Left(keep)...)
				again := opened(t, crashed, "a")
				if got := all(t, again); !among(got, m.lists) || again.Lasting() != len(got) {
					t.Fatalf("seed %d, behind %v, keeping %d of %d: %.300q, want one of %.300q", seed, o, keep, d.Pending(), got, m.lists)
				}
			}
		}
	}
	if left["append"] < 20 || left["start"] < 20 || left["sync"] < 20 {
		t.Error("too few calls failed:", left)
	}
}

// What lasts lasts: a crash that keeps nothing leaves the records that Lasting tells of at least.
func TestLastingLasts(t *testing.T) {
	for seed := range 600 {
		r := rand.New(rand.NewSource(int64(seed)))
		d := made(t, 3000)
		l := opened(t, d, "a")
		for range 20 {
			someCall(r).on(l)
			if r.Intn(5) > 0 {
				continue
			}
			had, lasting := all(t, l), l.Lasting()
			d.Crash(r.Intn(40) * r.Intn(2))
			d.Start()
			l = opened(t, d, "a")
			got := all(t, l)
			if len(got) < lasting || len(got) > len(had) || !slices.Equal(got, had[:len(got)]) {
				t.Fatalf("seed %d: %d records of %d, of which %d last", seed, len(got), len(had), lasting)
			}
		}
	}
}

// A crash at every step of a Start: the old records, or the new ones; and of every step of the Open behind it.
func TestCrashInStart(t *testing.T) {
	old, fresh := []string{"a", "bc"}, []string{"x", "", "yz"}
	for act := 1; act <= 4; act++ {
		for keep := 0; ; keep++ {
			d := made(t, 500, file("log", logOf(old...)))
			l := opened(t, d, "log")
			l.Append([]byte("more"))
			d.Fail(act)
			if e := l.Start(lists(fresh)...); e != errFail {
				t.Fatal("Start:", e)
			}
			steps := d.Pending()
			renamed := act == 4 && keep >= steps
			d.Crash(keep)
			d.Start()
			crashInOpen(t, d)
			got := all(t, opened(t, d, "log"))
			want := append(slices.Clone(old), "more")
			if keep < 18 {
				want = old
			}
			if renamed {
				want = fresh
			}
			if !slices.Equal(got, want) || !slices.Equal(d.Names(), []string{"log"}) {
				t.Fatalf("act %d fails, keeping %d of %d: %q, want %q; %q", act, keep, steps, got, want, d.Names())
			}
			if keep > steps {
				break
			}
		}
	}
}

// crashInOpen: what each act of Open leaves, if the power fails behind it, opens with the same records.
func crashInOpen(t *testing.T, d *disk.Disk) {
	t.Helper()
	want := all(t, opened(t, made(t, 500, d.Files()...), "log"))
	for act := 1; act <= 4; act++ {
		for keep := range 4 {
			other := made(t, 500, d.Files()...)
			other.Fail(act)
			wal.Open(other, "log")
			other.Crash(keep)
			other.Start()
			if got := all(t, opened(t, other, "log")); !slices.Equal(got, want) {
				t.Fatalf("a crash in Open: %q, want %q", got, want)
			}
		}
	}
}

// A log goes on over crashes: each life takes up what the one ahead of it had for good.
func TestManyLives(t *testing.T) {
	d := made(t, 4000)
	var want []string
	for life := range 40 {
		l := opened(t, d, "a")
		tells(t, l, map[bool]int{true: 0, false: 9}[life == 0], len(want), want...)
		record := string(rune('a' + life%26))
		l.Append([]byte(record))
		if want = append(want, record); life%7 == 6 {
			want = want[len(want)-2:]
			l.Start(lists(want)...)
		}
		l.Sync()
		l.Append([]byte("never"))
		d.Crash(9)
		d.Start()
	}
}

// P13.9: logs under unlike names on one disk know nothing of each other but for the room, failures and Sync.
func TestTwoLogs(t *testing.T) {
	for _, names := range [][2]string{{"a", "b"}, {"a", "ab"}, {"a", "an"}, {"a", "a.n.n"}, {"a.n", "b.n"}, {"a.n", "a.n.n.n"}, {"n", "a.n"}} {
		for seed := range 60 {
			r := rand.New(rand.NewSource(int64(seed)))
			d := made(t, 100000)
			var logs [2]*wal.Log
			var alone [2]*pair // the same calls on a disk of its own
			for i, name := range names {
				logs[i] = opened(t, d, name)
				alone[i] = pairOf(t, 100000, name)
			}
			for range 30 {
				i := r.Intn(2)
				o := someCall(r)
				if r.Intn(8) == 0 {
					logs[i] = opened(t, d, names[i])
					alone[i].play(t, reopen())
				}
				n, e := o.on(logs[i])
				if want, wantE := alone[i].m.do(o); n != want || e != wantE {
					t.Fatalf("%q, %v: %d, %d, want %d, %d", names, o, n, e, want, wantE)
				}
				o.on(alone[i].l)
				for i, p := range alone {
					tells(t, logs[i], 0, p.m.lasting, p.m.records...)
					if p.m.there && seen(d, names[i]) != logOf(p.m.records...) {
						t.Fatalf("%q: the file of %q is another one", names, names[i])
					}
				}
			}
		}
	}
}

// A Sync of the one has the other one's records last, though that does not know it; and a failure is met by whoever acts.
func TestTwoLogsShare(t *testing.T) {
	d := made(t, 500)
	a, b := opened(t, d, "a"), opened(t, d, "b")
	a.Append([]byte("x"))
	b.Append([]byte("y"))
	b.Sync()
	tells(t, a, 0, 0, "x")
	d.Fail(1)
	if e := a.Sync(); e != errFail {
		t.Error("Sync:", e)
	}
	shut(t, d, a)
	if n, e := b.Append([]byte("z")); n != 1 || e != 0 {
		t.Error("the other log has failed, too:", n, e)
	}
	d.Crash(0)
	d.Start()
	tells(t, opened(t, d, "a"), 0, 1, "x")
	tells(t, opened(t, d, "b"), 0, 1, "y")
}

package wal_test

import (
	"bytes"
	"math/rand"
	"slices"
	gosync "sync"
	"testing"

	"hawser/api"
	"hawser/disk"
	"hawser/wal"
)

// R3: what is handed in stays, and is not kept; what is answered is the caller's own.

func spoil(b []byte) {
	for i := range b[:cap(b)] {
		b[:cap(b)][i] = 'X'
	}
}

// roomy is bytes with some room behind their end, in which marks stand.
func roomy(s string) []byte { return append([]byte(s), "!!!!"...)[: len(s) : len(s)+4] }

// untouched: bytes of roomy are as they were.
func untouched(t *testing.T, b []byte, s string) {
	t.Helper()
	if string(b) != s || string(b[len(b):cap(b)]) != "!!!!" {
		t.Fatalf("what was handed in has changed: %q", b[:cap(b)])
	}
}

func TestRecordsHandedIn(t *testing.T) {
	for failing := range 7 {
		d := made(t, 500)
		l := opened(t, d, "a")
		d.Fail(failing)
		var want []string
		for _, r := range []string{"one", "", "two", "three"} {
			b := roomy(r)
			if _, e := l.Append(b); e == 0 {
				want = append(want, r)
			}
			untouched(t, b, r)
			spoil(b)
			tells(t, l, 0, 0, want...)
		}
		tells(t, opened(t, made(t, 500, d.Files()...), "a"), 0, len(want), want...)
	}
}

func TestListHandedIn(t *testing.T) {
	texts := []string{"one", "", "two"}
	for failing := range 6 {
		d := made(t, 500)
		l := opened(t, d, "a")
		d.Fail(failing)
		mark := []byte("mark")
		list := make([][]byte, 0, 6)
		for _, s := range texts {
			list = append(list, roomy(s))
		}
		list = append(list, mark, mark)[:3]
		e := l.Start(list...)
		for i, b := range list {
			untouched(t, b, texts[i])
		}
		if behind := list[3:5]; string(behind[0]) != "mark" || string(behind[1]) != "mark" {
			t.Fatal("the room behind the list has changed")
		}
		for i, b := range list {
			spoil(b)
			list[i] = mark
		}
		if (e == 0) != (failing == 0 || failing == 5) {
			t.Fatal("Start:", e)
		}
		if e != 0 {
			tells(t, l, 0, 0)
			continue
		}
		d.Fail(0)
		tells(t, l, 0, 3, texts...)
		l.Append([]byte("more"))
		if string(list[:4][3]) != "mark" {
			t.Fatal("the log goes on in the list that was handed in")
		}
		tells(t, opened(t, d, "a"), 0, 4, append(texts, "more")...)
	}
}

// One list of bytes as two records makes two.
func TestOneListTwice(t *testing.T) {
	d := made(t, 500)
	l := opened(t, d, "a")
	b := []byte("abc")
	if e := l.Start(b, b[:2], b[1:], b); e != 0 {
		t.Fatal(e)
	}
	l.Append(b[:1])
	spoil(b)
	tells(t, l, 0, 4, "abc", "ab", "bc", "abc", "a")
	first, _ := l.Record(0)
	spoil(first)
	tells(t, l, 0, 4, "abc", "ab", "bc", "abc", "a")
}

// What Record answers is new, its spare room too, and stays as it is.
func TestRecordsAnswered(t *testing.T) {
	for seed := range 100 {
		r := rand.New(rand.NewSource(int64(seed)))
		p := pairOf(t, 800, "a", file("a", logOf("x", "", "yz")))
		var kept [][]byte
		var want []string
		for range 30 {
			for i := range p.l.Len() {
				b, _ := p.l.Record(i)
				spoil(b)
				b, _ = p.l.Record(i)
				kept, want = append(kept, b), append(want, string(b))
			}
			p.play(t, someOp(r))
		}
		for i, b := range kept {
			if string(b) != want[i] {
				t.Fatal("an answer has changed")
			}
			spoil(b)
		}
		p.alike(t, op{what: "spoiling"})
	}
}

// Records of one file do not run into one another.
func TestRecordsApart(t *testing.T) {
	d := made(t, 500, file("a", logOf("ab", "cd", "ef")))
	l := opened(t, d, "a")
	for i := range 3 {
		b, _ := l.Record(i)
		spoil(append(b, "behind its end"...))
	}
	tells(t, l, 0, 3, "ab", "cd", "ef")
	has(t, d, file("a", logOf("ab", "cd", "ef")))
}

// R4: the same calls are answered the same, and two logs on two disks know nothing of each other.
func TestOnTheirOwn(t *testing.T) {
	r := rand.New(rand.NewSource(5))
	first, second := pairOf(t, 900, "a"), pairOf(t, 900, "a")
	for range 400 {
		first.play(t, someOp(r))
		second.play(t, someOp(r))
		first.alike(t, op{what: "the other's call"})
	}
}

func TestGoroutines(t *testing.T) {
	looked := opened(t, made(t, 99, file("a", logOf("x", "yz"))), "a")
	var wg gosync.WaitGroup
	for i := range 6 {
		wg.Go(func() {
			r := rand.New(rand.NewSource(int64(i)))
			d, _ := disk.New(5000)
			l, _ := wal.Open(d, "a")
			var want []string
			for range 60 {
				s := someRecord(r)
				n, e := l.Append([]byte(s))
				want = append(want, s)
				b, _ := l.Record(n)
				if e != 0 || !bytes.Equal(b, []byte(s)) {
					t.Error("Append:", e)
				}
				if b, e := looked.Record(1); string(b) != "yz" || e != 0 || looked.Len() != 2 {
					t.Error("Record:", e)
				}
			}
			if l.Len() != len(want) {
				t.Error("Len:", l.Len())
			}
		})
	}
	wg.Wait()
}

// R5: a log that no call made changes nothing, and answers zero values.
func TestUnmade(t *testing.T) {
	refused, _ := wal.Open(nil, "a")
	long := make([]byte, maxRecord+1)
	for name, l := range map[string]*wal.Log{"nil": nil, "zero": {}, "new": new(wal.Log), "refused": refused} {
		for range 3 {
			for _, b := range [][]byte{nil, []byte("x"), long} {
				if n, e := l.Append(b); n != 0 || e != errMade {
					t.Errorf("%s: Append: %d, %d", name, n, e)
				}
				if e := l.Start(b, b); e != errMade {
					t.Errorf("%s: Start: %d", name, e)
				}
			}
			if got := []api.Errno{l.Start(), l.Sync(), l.Close()}; !slices.Equal(got, []api.Errno{errMade, errMade, errMade}) {
				t.Errorf("%s: Start, Sync, Close: %d", name, got)
			}
			for _, i := range []int{-1, 0, 1} {
				if b, e := l.Record(i); len(b) != 0 || e != errMade {
					t.Errorf("%s: Record: %d", name, e)
				}
			}
			if l.Len() != 0 || l.Lasting() != 0 || l.Torn() != 0 {
				t.Errorf("%s: it tells something", name)
			}
		}
	}
}

// A log, or its disk, that was overwritten by none.
func TestOverwritten(t *testing.T) {
	d := made(t, 99)
	l := opened(t, d, "a")
	l.Append([]byte("x"))
	*d = disk.Disk{}
	if e := l.Sync(); e != errMade {
		t.Error("Sync over a disk that is none any more:", e)
	}
	tells(t, l, 0, 0, "x")
	*l = wal.Log{}
	if e := l.Sync(); e != errMade || l.Len() != 0 {
		t.Error("what was overwritten goes on:", e)
	}
}

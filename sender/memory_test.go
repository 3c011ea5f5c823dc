package sender_test

import (
	"runtime"
	"slices"
	"strings"
	"sync"
	"testing"

	"hawser/api"
	"hawser/delta"
	"hawser/message"
	"hawser/sender"
)

// R3: what is handed in stays, and is not kept; what is answered is the caller's own.

const mark = -77

// roomy: a copy of a list, with marks in the room behind its end.
func roomy[T ~[]E, E any](l T, mark E) T {
	long := append(slices.Clone(l), mark, mark, mark, mark)
	return long[: len(l) : len(l)+4]
}

// spoil writes over a list and the room behind its end.
func spoil[T ~[]E, E any](l T, by E) {
	l = l[:cap(l)]
	for i := range l {
		l[i] = by
	}
}

func stays[E comparable](t *testing.T, what string, l, want []E, mark E) {
	t.Helper()
	if !slices.Equal(l, want) || !slices.Equal(l[len(l):cap(l)], []E{mark, mark, mark, mark}) {
		t.Fatalf("%s: what was handed in has changed", what)
	}
}

var badRow = api.Row{Key: "spoilt", Value: "spoilt", Version: -9}

// spoilChunks writes over all that chunks have, the innermost first.
func spoilChunks(l []api.Chunk) {
	for _, c := range l {
		for _, p := range c.Pieces {
			spoil(p.Rows, badRow)
		}
		spoil(c.Pieces, api.Piece{Bucket: mark})
	}
	spoil(l, api.Chunk{Index: mark})
}

// spoilAll writes over all that messages have.
func spoilAll(l []api.Msg) {
	for _, m := range l {
		spoil(m.Buckets, mark)
		spoil(m.Digests, api.Digest{})
		spoilChunks([]api.Chunk{m.Chunk})
	}
	spoil(l, api.Msg{Kind: mark})
}

func TestCutMemory(t *testing.T) {
	plain := rows(100, 40)
	buckets := all(1)
	given, asked := roomy(plain, badRow), roomy(buckets, mark)
	s := api.State{Seq: 5, Rows: given}
	want := cutting(s, 1, 64, buckets)
	one, _ := sender.Cut(s, 1, 64, asked...)
	two, _ := sender.Cut(s, 1, 64, asked...)
	stays(t, "rows", given, plain, badRow)
	stays(t, "buckets", asked, buckets, mark)
	spoilChunks(one)
	stays(t, "rows behind the answer", given, plain, badRow)
	spoil(given, badRow)
	spoil(asked, mark)
	if !slices.EqualFunc(two, want, sameChunk) {
		t.Error("an answer hangs on what was handed in, or on another answer")
	}
	// No two lists of one answer share memory: each is written over by itself, and seen in no other one.
	for i, c := range two {
		for k, p := range c.Pieces {
			spoil(p.Rows, badRow)
			two[i].Pieces[k].Rows = nil
			want[i].Pieces[k].Rows = nil
			if !slices.EqualFunc(two, want, sameChunk) {
				t.Fatalf("chunk %d, piece %d: its rows are another list's, too", i, k)
			}
		}
		spoil(c.Pieces, api.Piece{Bucket: mark})
		two[i].Pieces, want[i].Pieces = nil, nil
		if !slices.EqualFunc(two, want, sameChunk) {
			t.Fatalf("chunk %d: its pieces are another list's, too", i)
		}
	}
}

// Messages that were answered are written over, and what goes out again is as it was.
func TestMessagesAnswered(t *testing.T) {
	p := begin(t, 7, load(api.State{Seq: 5, Rows: rows(100, 40)}), api.Settings{Depth: 1, Window: 4, Patience: 1, Chunk: 64, Deltas: 50})
	spoilAll(p.take(open(7, 1, api.Token{})))
	spoilAll(p.take(open(7, 1, api.Token{})))
	for range 3 {
		spoilAll(p.take(asks(7, 1, all(1)...)))
	}
	spoilAll(p.take(want(7, all(1)...)))
	for p.x.Phase() == api.PhaseChunks {
		spoilAll(p.next(1))
		for range 3 {
			spoilAll(p.tick())
		}
		spoilAll(p.take(open(7, 1, api.Token{})))
		spoilAll(p.take(got(7, p.m.got+1)))
		if p.m.got%5 == 0 && p.m.boot < 5 {
			spoilAll(p.take(open(7, p.m.boot+1, api.Token{Transfer: 7, Seq: 5, Next: p.m.got})))
		}
	}
	for range 30 {
		spoilAll(p.next(1))
		spoilAll(p.tick())
		spoilAll(p.take(caught(7, p.m.boot, p.m.caught+1)))
	}
}

// An answer stays as it is, whatever is done later.
func TestAnswersStay(t *testing.T) {
	p := begin(t, 7, load(api.State{Seq: 5, Rows: rows(100, 40)}), api.Settings{Depth: 1, Window: 4, Patience: 1, Chunk: 64, Deltas: 50})
	var kept, then [][]api.Msg
	note := func(l []api.Msg) {
		kept = append(kept, l)
		c := slices.Clone(l)
		for i := range c {
			c[i].Buckets, c[i].Digests = slices.Clone(c[i].Buckets), slices.Clone(c[i].Digests)
			c[i].Chunk.Pieces = slices.Clone(c[i].Chunk.Pieces)
			for k := range c[i].Chunk.Pieces {
				c[i].Chunk.Pieces[k].Rows = slices.Clone(c[i].Chunk.Pieces[k].Rows)
			}
		}
		then = append(then, c)
	}
	note(p.take(open(7, 1, api.Token{})))
	note(p.take(asks(7, 1, 3, 5, 8)))
	note(p.take(want(7, 3, 5, 8)))
	for p.x.Phase() == api.PhaseChunks {
		note(p.next(1))
		note(p.tick())
		note(p.take(got(7, p.m.got+1)))
	}
	for range 20 {
		note(p.next(1))
		note(p.take(caught(7, 1, p.m.caught+1)))
		note(p.tick())
	}
	note(p.take(abort(7)))
	note(p.take(got(7, 1)))
	for i := range kept {
		if !slices.EqualFunc(kept[i], then[i], message.Alike) {
			t.Fatalf("answer %d has changed: %s, was %s", i, show(kept[i]), show(then[i]))
		}
	}
}

// What a message has is not changed, and not kept.
func TestMessagesTaken(t *testing.T) {
	p := begin(t, 7, load(api.State{Seq: 5, Rows: rows(100, 40)}), api.Settings{Depth: 1, Window: 4, Patience: 1, Chunk: 64, Deltas: 50})
	list := roomy([]int{3, 5, 8}, mark)
	l := p.take(asks(7, 1, list...))
	stays(t, "probe", list, []int{3, 5, 8}, mark)
	spoil(list, 1)
	if !slices.Equal(l[0].Buckets, []int{3, 5, 8}) {
		t.Error("digests hang on the question's list")
	}
	list = roomy([]int{3, 5, 8}, mark)
	m := api.Msg{Kind: api.KindWant, Attempt: 7, Buckets: list, Digests: make([]api.Digest, 1, 5), Config: api.Config{Chain: roomy([]int{1}, mark)}}
	p.take(m)
	stays(t, "want", list, []int{3, 5, 8}, mark)
	spoil(list, 1)
	if l, e := p.x.Take(want(7, 3, 5, 8)); e != 0 || len(l) != 0 {
		t.Errorf("the wanted buckets hang on the question's list: %s, %d", show(l), e)
	}
	p.take(want(7, 1, 1, 1))
}

// The lists that a new life has thrown away, and those that were let fall, leave what is kept as it is.
func TestKeptStays(t *testing.T) {
	p := begin(t, 7, load(api.State{Seq: 5, Rows: rows(100, 40)}), api.Settings{Depth: 1, Window: 3, Patience: 1, Chunk: 64, Deltas: 40})
	p.take(open(7, 1, api.Token{}))
	p.take(want(7))
	for n := range 300 {
		p.next(n % 4)
		if n%7 != 0 {
			p.take(caught(7, 1, p.m.fed))
		}
		for range n % 3 {
			p.tick()
		}
	}
}

// used is how much memory is in use.
func used() uint64 {
	var m runtime.MemStats
	runtime.GC()
	runtime.ReadMemStats(&m)
	return m.HeapAlloc
}

// What has arrived is kept no longer, nor anything behind the end.
func TestArrivedIsLetGo(t *testing.T) {
	const n, size = 200, 1 << 16
	set := api.Settings{Depth: 1, Window: 64, Patience: 1, Chunk: 1 << 18, Deltas: 4096}
	fill := func(x *sender.Sender) {
		for range n {
			if _, e := x.Offer(put(x.Last()+1, "a", strings.Repeat("v", size))); e != 0 {
				t.Fatal(e)
			}
		}
	}
	wanted := func() *sender.Sender {
		x, _ := sender.New(7, delta.New(), set)
		x.Take(want(7))
		return x
	}
	for name, c := range map[string]struct{ first, end func(*sender.Sender) }{
		"updates are caught": {fill, func(x *sender.Sender) {
			for x.Caught() < n {
				x.Take(caught(7, 0, min(n, x.Caught()+64)))
			}
		}},
		"the transfer is given up": {fill, func(x *sender.Sender) { x.Take(abort(7)) }},
	} {
		before := used()
		x := wanted()
		c.first(x)
		full := used()
		c.end(x)
		after := used()
		if full < before+n*size/2 || after > before+n*size/4 || x.Kept() != 0 {
			t.Errorf("%s: memory: %d, %d, %d", name, before, full, after)
		}
		runtime.KeepAlive(x)
	}
}

// The state itself, and its chunks, go when the transfer is given up.
func TestStateIsLetGo(t *testing.T) {
	const n, size = 100, 1 << 16
	set := api.Settings{Depth: 1, Window: 64, Patience: 1, Chunk: 1 << 18, Deltas: 4096}
	filled := func() *sender.Sender {
		s := api.State{Seq: 5}
		for _, r := range rows(n, 0) {
			s.Rows = append(s.Rows, api.Row{Key: r.Key, Value: strings.Repeat("v", size), Version: 1})
		}
		x, e := sender.New(7, load(s), set)
		if e != 0 {
			t.Fatal(e)
		}
		return x
	}
	for _, cut := range []bool{false, true} {
		before := used()
		x := filled()
		if cut {
			x.Take(want(7, all(1)...))
		}
		full := used()
		x.Take(abort(7))
		after := used()
		if full < before+n*size/2 || after > before+n*size/4 {
			t.Errorf("memory: %d, %d, %d", before, full, after)
		}
		runtime.KeepAlive(x)
	}
}

// Chunks go as they arrive: a hundred thousand short rows, of which the chunks have the most memory.
func TestChunksAreLetGo(t *testing.T) {
	const n, size = 100000, 40
	s := api.State{Seq: 5}
	for i := range n {
		s.Rows = append(s.Rows, api.Row{Key: string([]byte{byte(1 + i>>16), byte(i >> 8), byte(i)}), Version: 1})
	}
	x, e := sender.New(7, load(s), api.Settings{Depth: 1, Window: 64, Patience: 1, Chunk: 1 << 18, Deltas: 1})
	if e != 0 {
		t.Fatal(e)
	}
	before := used()
	x.Take(want(7, all(1)...))
	full := used()
	for _, count := x.Got(); x.Phase() == api.PhaseChunks; {
		have, _ := x.Got()
		if have > count/2+1 && used() > full-n*size/3 {
			t.Fatalf("%d of %d have arrived: memory: %d, %d", have, count, full, used())
		}
		x.Take(got(7, have+1))
	}
	after := used()
	if full < before+n*size*3/4 || after > before+n*size/4 {
		t.Errorf("memory: %d, %d, %d", before, full, after)
	}
	runtime.KeepAlive(x)
}

// Senders go to goroutines of their own, over one store; and one sender is asked by several at once.
func TestGoroutines(t *testing.T) {
	s := load(api.State{Seq: 5, Rows: rows(100, 40)})
	looked := begin(t, 9, s, small())
	looked.take(want(9, 3))
	var wg sync.WaitGroup
	for g := range 6 {
		x, e := sender.New(1+g, s, small())
		if e != 0 {
			t.Fatal(e)
		}
		m := modelOf(1+g, s, small())
		wg.Go(func() {
			for _, y := range []api.Msg{open(1+g, 1, api.Token{}), asks(1+g, 1, all(1)...), want(1+g, all(1)...), got(1+g, 1), got(1+g, 3)} {
				l, e := x.Take(y)
				k, wrong := m.take(y)
				if e != wrong || !slices.EqualFunc(l, k, message.Alike) {
					t.Errorf("%s: %s, %d", show([]api.Msg{y}), show(l), e)
				}
				spoilAll(l)
				if _, n := looked.x.Got(); n == 0 || looked.x.Phase() != api.PhaseChunks || looked.x.Last() != 5 {
					t.Error("the one that all look at")
				}
			}
		})
	}
	wg.Wait()
	looked.holds()
}

package message_test

import (
	"reflect"
	"slices"
	"sync"
	"testing"

	"hawser/api"
	"hawser/message"
)

// R3: what is handed in stays, and is not kept; what is answered is the caller's own.

// roomy gives each list of a message room behind its end, in which by fills what is there.
func roomy(m api.Msg) api.Msg {
	m.Config.Chain = behind(m.Config.Chain, 77)
	m.Buckets = behind(m.Buckets, 77)
	m.Digests = behind(m.Digests, digest(77))
	m.Chunk.Pieces = behind(m.Chunk.Pieces, api.Piece{Bucket: 77, Last: true})
	for i, p := range m.Chunk.Pieces {
		m.Chunk.Pieces[i].Rows = behind(p.Rows, api.Row{Key: "mark", Version: 77})
	}
	return m
}

func behind[T any](l []T, mark T) []T {
	all := append(slices.Clone(l), mark, mark, mark)
	return all[: len(l) : len(l)+3]
}

// whole is a message with all that stands in the room behind its lists.
func whole(m api.Msg) api.Msg {
	m = clone(api.Msg{
		Config: api.Config{Chain: m.Config.Chain[:cap(m.Config.Chain)]}, Buckets: m.Buckets[:cap(m.Buckets)],
		Digests: m.Digests[:cap(m.Digests)], Chunk: api.Chunk{Pieces: m.Chunk.Pieces[:cap(m.Chunk.Pieces)]},
	})
	for i, p := range m.Chunk.Pieces {
		m.Chunk.Pieces[i].Rows = slices.Clone(p.Rows[:cap(p.Rows)])
	}
	return m
}

// spoil fills each list of a message, and the room behind it.
func spoil(m api.Msg) {
	fillAll(m.Config.Chain, -5)
	fillAll(m.Buckets, -5)
	fillAll(m.Digests, digest(5))
	for _, p := range m.Chunk.Pieces {
		fillAll(p.Rows, api.Row{Key: "spoilt", Version: -5})
	}
	fillAll(m.Chunk.Pieces, api.Piece{Bucket: -5})
}

func fillAll[T any](l []T, by T) {
	l = l[:cap(l)]
	for i := range l {
		l[i] = by
	}
}

func TestMessagesHandedIn(t *testing.T) {
	wrong := full()
	for _, m := range append(small(), wrong, great()[23], great()[25]) {
		want, e := message.Encode(m)
		given := roomy(m)
		before := whole(given)
		other := clone(m)
		got, f := message.Encode(given)
		if e != f || string(got) != string(want) {
			t.Fatalf("Encode: %d", f)
		}
		message.Check(given)
		message.Text(given)
		message.Alike(given, other)
		message.Alike(other, given)
		if !reflect.DeepEqual(whole(given), before) || !same(given, other) {
			t.Fatalf("%s has changed", brief(other))
		}
		spoil(given)
		if string(got) != string(want) {
			t.Fatal("an answer hangs on what was handed in")
		}
	}
}

func TestBytesHandedIn(t *testing.T) {
	for _, m := range append(small(), great()...) {
		want, _ := message.Encode(m)
		b := behind(want, 0xee)
		got, e := message.Decode(b)
		if e != 0 || string(b) != string(want) || string(b[len(b):cap(b)]) != "\xee\xee\xee" {
			t.Fatal("Decode: what was handed in has changed")
		}
		fillAll(b, 0xdd)
		if !same(got, m) {
			t.Fatal("Decode: an answer hangs on what was handed in")
		}
		b = behind(want[:len(want)-1], 0xee)
		message.Decode(b)
		if string(b) != string(want[:len(want)-1]) || string(b[len(b):cap(b)]) != "\xee\xee\xee" {
			t.Fatal("Decode: what was handed in has changed")
		}
	}
}

func TestBytesAnswered(t *testing.T) {
	for _, m := range append(small(), great()...) {
		a, _ := message.Encode(m)
		b, _ := message.Encode(m)
		fillAll(a, 0xdd)
		c, _ := message.Encode(m)
		if string(b) != string(c) || string(b) != string(framed(t, m.Kind, body(m))) {
			t.Fatal("Encode: an answer hangs on another one")
		}
	}
}

// No two lists of an answer share anything, the room behind them neither.
func TestListsAnswered(t *testing.T) {
	for _, m := range append(small(), great()...) {
		b, _ := message.Encode(m)
		first, _ := message.Decode(b)
		second, _ := message.Decode(b)
		spoil(first)
		if !same(second, m) {
			t.Fatal("Decode: an answer hangs on another one")
		}
		for i := range second.Chunk.Pieces {
			got, _ := message.Decode(b)
			fillAll(got.Chunk.Pieces[i].Rows, api.Row{Key: "spoilt"})
			got.Chunk.Pieces[i].Rows = m.Chunk.Pieces[i].Rows
			if !same(got, m) {
				t.Fatal("Decode: the rows of two pieces share")
			}
			if i > 3 {
				break
			}
		}
		got, _ := message.Decode(b)
		fillAll(got.Buckets, -5)
		got.Buckets = m.Buckets
		if !same(got, m) {
			t.Fatal("Decode: buckets share")
		}
		fillAll(got.Digests, digest(5))
		fillAll(got.Config.Chain, -5)
		got.Digests, got.Config.Chain = m.Digests, m.Config.Chain
		if !same(got, m) {
			t.Fatal("Decode: digests or a chain share")
		}
	}
}

// R4: goroutines ask side by side.
func TestGoroutines(t *testing.T) {
	l := small()
	var wg sync.WaitGroup
	for range 8 {
		wg.Go(func() {
			for _, m := range l {
				b, e := message.Encode(m)
				got, f := message.Decode(b)
				if e != 0 || f != 0 || !message.Alike(got, m) {
					t.Error(brief(m), e, f)
				}
			}
		})
	}
	wg.Wait()
}

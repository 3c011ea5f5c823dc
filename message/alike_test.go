package message_test

import (
	"math/rand"
	"testing"

	"hawser/api"
	"hawser/message"
)

// full is a message that has something everywhere, and may not be.
func full() api.Msg {
	rows := func(n int) []api.Row {
		return []api.Row{{Key: "a", Value: "x", Version: n}, {Key: "b", Value: "y", Version: n + 1}}
	}
	return api.Msg{
		Kind: 20, From: 1, To: 2, Epoch: 3, Attempt: 4, Client: 5, Number: 6, Seq: 7, Key: "key",
		Op:     api.Op{Kind: 1, Key: "k", Value: "v", Version: 8},
		Update: api.Update{Seq: 9, Client: 10, Number: 11, Op: api.Op{Kind: 2, Key: "l", Value: "w", Version: 12}},
		Result: api.Result{Code: 3, Version: 13}, Row: api.Row{Key: "r", Value: "s", Version: 14}, Found: true,
		Config: api.Config{Epoch: 15, Chain: []int{16, 17}}, Level: 18, Buckets: []int{19, 20},
		Digests: []api.Digest{digest(21), digest(22)},
		Chunk: api.Chunk{Index: 23, Last: true, Pieces: []api.Piece{
			{Bucket: 24, First: true, Last: true, Rows: rows(25)}, {Bucket: 27, First: true, Last: true, Rows: rows(28)},
		}},
		Token: api.Token{Transfer: 30, Seq: 31, Next: 32},
	}
}

func alike(t *testing.T, a, b api.Msg) {
	t.Helper()
	want := same(a, b)
	if message.Alike(a, b) != want || message.Alike(b, a) != want {
		t.Fatalf("Alike(%s, %s): not %v", brief(a), brief(b), want)
	}
}

// P15.3: each thing that a message has counts.
func TestAlike(t *testing.T) {
	for _, m := range append(small(), full(), api.Msg{}) {
		if !message.Alike(m, m) || !message.Alike(m, clone(m)) {
			t.Fatalf("%s is not alike", brief(m))
		}
		unlike := 0
		changed(m, func(_ string, c api.Msg) {
			alike(t, m, c)
			if !same(m, c) {
				unlike++
			}
		})
		if unlike < 100 {
			t.Errorf("%s: %d", brief(m), unlike)
		}
	}
	all := append(small(), full(), api.Msg{})
	for _, a := range all {
		for _, b := range all {
			alike(t, a, b)
		}
	}
}

func TestEmptyListsAreAlike(t *testing.T) {
	some := api.Msg{
		Config: api.Config{Chain: []int{}}, Buckets: make([]int, 0, 4), Digests: []api.Digest{},
		Chunk: api.Chunk{Pieces: []api.Piece{}},
	}
	if !message.Alike(api.Msg{}, some) || !message.Alike(some, api.Msg{}) {
		t.Error("nil and empty lists")
	}
	a := api.Msg{Chunk: api.Chunk{Pieces: []api.Piece{{Bucket: 1}}}}
	b := api.Msg{Chunk: api.Chunk{Pieces: []api.Piece{{Bucket: 1, Rows: []api.Row{}}}}}
	if !message.Alike(a, b) || !message.Alike(b, a) {
		t.Error("nil and empty rows")
	}
	for _, m := range small() {
		want, _ := message.Encode(m)
		if m.Buckets == nil {
			m.Buckets = []int{}
		}
		if m.Digests == nil {
			m.Digests = []api.Digest{}
		}
		if m.Config.Chain == nil {
			m.Config.Chain = []int{}
		}
		if m.Chunk.Pieces == nil {
			m.Chunk.Pieces = []api.Piece{}
		}
		if b, e := message.Encode(m); e != 0 || string(b) != string(want) {
			t.Errorf("%s: %x, %d", brief(m), b, e)
		}
	}
}

func TestAlikeAnyhow(t *testing.T) {
	r := rand.New(rand.NewSource(157))
	for range 5000 {
		m := anything(r, api.Kind(1+r.Intn(28)))
		alike(t, m, changedAnyhow(r, m))
		alike(t, m, anything(r, m.Kind))
	}
}

package message_test

import (
	"math"
	"slices"
	"strconv"
	"strings"
	"testing"

	"hawser/api"
	"hawser/message"
)

// P15.4: what is told of the kinds.
func TestKinds(t *testing.T) {
	for _, r := range table() {
		if got := message.Name(r.kind); got != r.name {
			t.Errorf("Name(%d): %q", r.kind, got)
		}
		ways := strings.Fields(r.ways)
		about := func(side string) bool {
			return slices.ContainsFunc(ways, func(w string) bool { return strings.Contains(w, side) })
		}
		nodes, master, clients := message.Between(r.kind)
		if nodes != slices.Contains(ways, "n>n") || master != about("m") || clients != about("c") {
			t.Errorf("Between(%d): %v, %v, %v", r.kind, nodes, master, clients)
		}
	}
	for _, c := range []struct {
		kind                   api.Kind
		nodes, master, clients bool
	}{
		{api.KindRequest, false, false, true},
		{api.KindLookup, false, true, true},
		{api.KindConfig, false, true, true},
		{api.KindForward, true, false, false},
		{api.KindAbort, true, true, false},
		{api.KindCancel, false, true, false},
	} {
		nodes, master, clients := message.Between(c.kind)
		if nodes != c.nodes || master != c.master || clients != c.clients {
			t.Errorf("Between(%d): %v, %v, %v", c.kind, nodes, master, clients)
		}
	}
	for _, k := range []api.Kind{0, 29, 30, 255, 256, 257, -1, math.MinInt, math.MaxInt} {
		nodes, master, clients := message.Between(k)
		if nodes || master || clients || message.Name(k) != "" {
			t.Errorf("kind %d: %q, %v, %v, %v", k, message.Name(k), nodes, master, clients)
		}
	}
}

// The constants of api are the table's.
func TestKindsByName(t *testing.T) {
	for k, name := range map[api.Kind]string{
		api.KindRequest: "request", api.KindReply: "reply", api.KindRead: "read", api.KindValue: "value", api.KindWrong: "wrong",
		api.KindLookup: "lookup", api.KindConfig: "config", api.KindAdopted: "adopted", api.KindForward: "forward", api.KindAck: "ack",
		api.KindQuery: "query", api.KindAnswer: "answer", api.KindJoin: "join", api.KindBegin: "begin", api.KindOpen: "open",
		api.KindOpened: "opened", api.KindProbe: "probe", api.KindDigests: "digests", api.KindWant: "want", api.KindChunk: "chunk",
		api.KindGot: "got", api.KindDelta: "delta", api.KindCaught: "caught", api.KindAbort: "abort", api.KindReady: "ready",
		api.KindPrepare: "prepare", api.KindPrepared: "prepared", api.KindCancel: "cancel",
	} {
		if message.Name(k) != name {
			t.Errorf("Name(%d): %q", k, message.Name(k))
		}
	}
}

// P15.5: a line for each kind.
func TestText(t *testing.T) {
	want := []string{
		"request c2>1 client=2 number=3",
		"request c16>8 client=16 number=300",
		"request c1>2 client=1 number=1",
		"reply 1>c1 epoch=1 client=1 number=9",
		"reply 8>c16 epoch=130 client=16 number=1",
		"read c1>3 client=1 number=128",
		"value 1>c1 epoch=1 client=1 number=9",
		"value 2>c9 epoch=3 client=9 number=200",
		"value 2>c9 epoch=3 client=9 number=2",
		"wrong 7>c3 client=3 number=4 config=5",
		"lookup 3>m",
		"lookup 3>m epoch=6 attempt=150",
		"lookup c5>m epoch=6",
		"config m>4 config=300",
		"config m>c4 config=1",
		"adopted 2>m epoch=5",
		"forward 1>2 epoch=1 update=4",
		"forward 8>7 epoch=200 update=300",
		"ack 3>2 epoch=1 number=6 seq=4",
		"ack 3>2 epoch=1",
		"query 1>3 epoch=2 client=4 number=5",
		"answer 3>1 epoch=2 client=4 number=5 seq=200",
		"join 5>m number=2",
		"begin m>3 attempt=2 number=1 config=4",
		"open 3>2 epoch=4 attempt=2 number=1",
		"open 3>2 epoch=4 attempt=200 number=3",
		"open 3>2 epoch=4 attempt=2 number=3",
		"opened 2>3 attempt=2 number=1 seq=9",
		"opened 2>3 attempt=2 number=1",
		"probe 3>2 attempt=2",
		"probe 3>2 attempt=2 level=3",
		"digests 2>3 attempt=2 level=1",
		"want 3>2 attempt=2",
		"want 3>2 attempt=2",
		"chunk 2>3 attempt=2 chunk=0",
		"chunk 2>3 attempt=2 chunk=130",
		"got 3>2 attempt=2 seq=3",
		"got 3>2 attempt=2",
		"delta 2>3 attempt=2 update=9",
		"caught 3>2 attempt=2 number=1 seq=9",
		"abort 3>2 attempt=2",
		"abort 3>m attempt=2",
		"ready 3>m attempt=2 number=1 seq=9",
		"prepare m>2 epoch=4 attempt=2 number=3",
		"prepared 2>m epoch=4 attempt=2 seq=9",
		"cancel m>2 epoch=4 attempt=2",
	}
	for i, m := range small() {
		if got, e := message.Text(m); e != 0 || got != want[i] {
			t.Errorf("%d: %q, %d, want %q", i, got, e, want[i])
		}
	}
	m := api.Msg{Kind: 12, From: 8, To: 7, Epoch: topEpoch, Client: 16, Number: top, Seq: top}
	n := strconv.Itoa(top)
	if got, e := message.Text(m); e != 0 || got != "answer 8>7 epoch=1099511627776 client=16 number="+n+" seq="+n {
		t.Errorf("%q, %d", got, e)
	}
}

func TestTextRefuses(t *testing.T) {
	for _, k := range []api.Kind{0, 29, -1} {
		if s, e := message.Text(api.Msg{Kind: k, From: 1, To: 2, Epoch: 1}); s != "" || e != errKind {
			t.Errorf("kind %d: %q, %d", k, s, e)
		}
	}
	for _, m := range small() {
		m.From = m.To
		if s, e := message.Text(m); s != "" || e != errField {
			t.Errorf("%s: %q, %d", brief(m), s, e)
		}
	}
}

package message_test

import (
	"math/rand"
	"runtime"
	"slices"
	"strings"
	"testing"

	"hawser/api"
	"hawser/message"
)

// The chapter's bodies.
func TestBodyExamples(t *testing.T) {
	for _, c := range []struct {
		m    api.Msg
		body string
	}{
		{api.Msg{Kind: 8, From: 2, Epoch: 5}, "\x02\x00\x05"},
		{api.Msg{Kind: 10, From: 3, To: 2, Epoch: 1, Seq: 4, Number: 6}, "\x03\x02\x01\x04\x06"},
		{api.Msg{Kind: 4, From: 1, To: 101, Epoch: 1, Client: 1, Number: 9, Row: api.Row{Key: "a"}}, "\x01\x65\x01\x01\x09\x00\x01\x61"},
		{api.Msg{Kind: 1, From: 102, To: 1, Client: 2, Number: 3, Op: api.Op{Kind: 1, Key: "a", Value: "x"}}, "\x66\x01\x02\x03\x08\x01\x01\x01\x01\x01\x61\x01\x78"},
		{api.Msg{Kind: 14, To: 3, Attempt: 2, Number: 1, Config: api.Config{Epoch: 4, Chain: []int{1, 2}}}, "\x00\x03\x02\x01\x04\x02\x01\x02"},
		{api.Msg{Kind: 20, From: 2, To: 3, Attempt: 1, Chunk: api.Chunk{Index: 300, Last: true, Pieces: []api.Piece{{Bucket: 6, First: true, Rows: []api.Row{{Key: "a", Value: "x", Version: 7}}}}}}, "\x02\x03\x01\xac\x02\x01\x01\x06\x01\x00\x01\x01a\x01x\x07"},
		{api.Msg{Kind: 15, From: 3, To: 2, Epoch: 1, Attempt: 4, Number: 5}, "\x03\x02\x01\x04\x05\x00\x00\x00"},
		{api.Msg{Kind: 18, From: 3, To: 2, Attempt: 4, Level: 1, Buckets: []int{7}, Digests: []api.Digest{{1}}}, "\x03\x02\x04\x01\x01\x07\x01" + strings.Repeat("\x00", 31)},
	} {
		b, e := message.Encode(c.m)
		if e != 0 || string(b) != string(framed(t, c.m.Kind, []byte(c.body))) {
			t.Errorf("Encode(%s): %x, %d", brief(c.m), b, e)
		}
		if m, e := message.Decode(b); e != 0 || !same(m, c.m) {
			t.Errorf("Decode(%x): %s, %d", b, brief(m), e)
		}
	}
	refused(t, "the chapter's", framed(t, 8, []byte{2, 0}))
}

func TestNoFrames(t *testing.T) {
	refused(t, "nil", nil)
	for _, m := range small() {
		b, _ := message.Encode(m)
		for n := range b {
			refused(t, "cut", b[:n])
		}
		for c := range 256 {
			refused(t, "a byte behind", append(slices.Clip(b), byte(c)))
			refused(t, "a byte ahead", append([]byte{byte(c)}, b...))
		}
		refused(t, "twice", slices.Concat(b, b))
		refused(t, "a frame in a frame", framed(t, m.Kind, b))
		refused(t, "the body alone", body(m))
	}
	refused(t, "zeros", make([]byte, 1<<21))
}

// A body under each type: what is read of it is of that kind, in its one form.
func TestOtherTypes(t *testing.T) {
	for _, m := range small() {
		for k := api.Kind(1); k <= 255; k++ {
			b := framed(t, k, body(m))
			oneForm(t, b)
			if k > 28 {
				refused(t, "a type that is no kind", b)
			}
		}
	}
}

// Bodies that are cut, or go on.
func TestBodiesCut(t *testing.T) {
	for _, m := range slices.Concat(small(), great()) {
		b := body(m)
		for n := 0; n < len(b); n += 1 + len(b)/100 {
			refused(t, "cut", framed(t, m.Kind, b[:n]))
		}
		refused(t, "cut by a byte", framed(t, m.Kind, b[:len(b)-1]))
		for c := range 8 {
			refused(t, "a byte behind", framed(t, m.Kind, append(slices.Clip(b), byte(c))))
		}
		refused(t, "much behind", framed(t, m.Kind, append(slices.Clip(b), make([]byte, 1<<18)...)))
	}
}

// P15.6: bodies in which a byte is another one, is there twice, is none, or is a longer form of a number.
func TestOneForm(t *testing.T) {
	for _, m := range small() {
		b := body(m)
		for i, old := range b {
			for c := range 256 {
				other := slices.Clone(b)
				other[i] = byte(c)
				oneForm(t, framed(t, m.Kind, other))
				oneForm(t, framed(t, m.Kind, slices.Insert(slices.Clone(b), i, byte(c))))
			}
			oneForm(t, framed(t, m.Kind, slices.Delete(slices.Clone(b), i, i+1)))
			for _, more := range []string{"\x00", "\x80\x00", "\x80\x80\x80\x00", "\x80\x80\x80\x80\x80\x80\x80\x80\x00"} {
				longer := slices.Concat(b[:i], []byte{old | 0x80}, []byte(more), b[i+1:])
				oneForm(t, framed(t, m.Kind, longer))
			}
		}
	}
	r := rand.New(rand.NewSource(153))
	for range 20000 {
		m := anything(r, api.Kind(1+r.Intn(28)))
		b := body(m)
		for range 1 + r.Intn(3) {
			b[r.Intn(len(b))] ^= 1 << r.Intn(8)
		}
		oneForm(t, framed(t, m.Kind, b))
	}
	for range 100000 {
		b := make([]byte, r.Intn(12))
		for i := range b {
			b[i] = byte(r.Intn(4))
		}
		oneForm(t, framed(t, api.Kind(1+r.Intn(28)), b))
	}
}

// Numbers anywhere in a body, each in a form that is longer than its shortest one.
func TestNumbersInTheirShortestForm(t *testing.T) {
	for _, c := range []struct {
		kind api.Kind
		body string
	}{
		{8, "\x82\x00\x00\x05"},
		{8, "\x02\x80\x00\x05"},
		{8, "\x02\x00\x85\x00"},
		{10, "\x03\x02\x01\x84\x00\x06"},
		{4, "\x01\x65\x01\x01\x09\x00\x81\x00\x61"},
		{1, "\x66\x01\x02\x03\x88\x00\x01\x01\x01\x01\x01\x61\x01\x78"},
		{1, "\x66\x01\x02\x03\x09\x81\x00\x01\x01\x01\x01\x61\x01\x78"},
		{14, "\x00\x03\x02\x01\x04\x82\x00\x01\x02"},
		{19, "\x03\x02\x01\x80\x00"},
		{20, "\x02\x03\x01\x00\x00\x01\x06\x01\x01\x80\x00"},
		{20, "\x02\x03\x01\x00\x00\x81\x00\x06\x01\x01\x00"},
	} {
		refused(t, "a number that is too long", framed(t, c.kind, []byte(c.body)))
	}
}

// What may not be is refused as bytes, too, where bytes can say it.
func TestBytesOfWhatMayNotBe(t *testing.T) {
	for _, c := range []struct {
		why  string
		kind api.Kind
		body []byte
	}{
		{"epoch 0", 8, numbers(2, 0, 0)},
		{"an epoch above the limit", 8, numbers(2, 0, topEpoch+1)},
		{"a lookup's epoch above the limit", 6, numbers(2, 0, topEpoch+1, 0)},
		{"a client's attempt", 6, numbers(102, 0, 1, 1)},
		{"attempt 0", 24, numbers(2, 3, 0)},
		{"an attempt above the limit", 24, numbers(2, 3, top+1)},
		{"a lookup's attempt above the limit", 6, numbers(2, 0, 1, top+1)},
		{"boot 0", 13, numbers(2, 0, 0)},
		{"a boot above the limit", 13, numbers(2, 0, top+1)},
		{"to itself", 24, numbers(2, 2, 1)},
		{"from the master", 24, numbers(0, 2, 1)},
		{"from node 9", 24, numbers(9, 2, 1)},
		{"to node 9", 24, numbers(2, 9, 1)},
		{"to a client", 24, numbers(2, 101, 1)},
		{"from address 100", 6, numbers(100, 0, 1, 0)},
		{"from client 17", 6, numbers(117, 0, 1, 0)},
		{"from a number's end", 6, slices.Concat([]byte("\xff\xff\xff\xff\xff\xff\xff\xff\xff\x01"), numbers(0, 1, 0))},
		{"client 0", 11, numbers(1, 2, 1, 0, 1)},
		{"client 17", 11, numbers(1, 2, 1, 17, 1)},
		{"another client than the one that sends", 3, slices.Concat(numbers(101, 2, 2, 1), text("a"))},
		{"another client than the one that gets", 2, numbers(1, 101, 1, 2, 1, 1, 0)},
		{"number 0", 11, numbers(1, 2, 1, 1, 0)},
		{"a number above the limit", 11, numbers(1, 2, 1, 1, top+1)},
		{"applied less than committed", 10, numbers(3, 2, 1, 4, 3)},
		{"applied above the limit", 10, numbers(3, 2, 1, 4, top+1)},
		{"committed above the limit", 10, numbers(3, 2, 1, top+1, top+1)},
		{"a joiner that is the tail", 26, numbers(0, 2, 1, 1, 2)},
		{"joiner 0", 26, numbers(0, 2, 1, 1, 0)},
		{"joiner 9", 26, numbers(0, 2, 1, 1, 9)},
		{"a seq above the limit", 21, numbers(2, 3, 1, top+1)},
		{"no key", 3, slices.Concat(numbers(101, 2, 1, 1), text(""))},
		{"the store's own key", 3, slices.Concat(numbers(101, 2, 1, 1), text("\x00s\x01"))},
		{"a key that is too long", 3, slices.Concat(numbers(101, 2, 1, 1), text(long(1025)))},
		{"an operation as update 2", 1, slices.Concat(numbers(102, 1, 2, 3), updateBytes(api.Update{Seq: 2, Client: 1, Number: 1, Op: api.Op{Kind: 2, Key: "a"}}))},
		{"an operation of client 2", 1, slices.Concat(numbers(102, 1, 2, 3), updateBytes(api.Update{Seq: 1, Client: 2, Number: 1, Op: api.Op{Kind: 2, Key: "a"}}))},
		{"an operation as request 2", 1, slices.Concat(numbers(102, 1, 2, 3), updateBytes(api.Update{Seq: 1, Client: 1, Number: 2, Op: api.Op{Kind: 2, Key: "a"}}))},
		{"an operation that is none", 1, slices.Concat(numbers(102, 1, 2, 3), updateBytes(api.Update{Seq: 1, Client: 1, Number: 1, Op: api.Op{Kind: 4, Key: "a"}}))},
		{"no operation", 1, slices.Concat(numbers(102, 1, 2, 3), text(""))},
		{"an update that is none", 9, slices.Concat(numbers(1, 2, 1), updateBytes(put(0, "a", "x")))},
		{"an update, and a byte in its text", 9, slices.Concat(numbers(1, 2, 1), text(string(updateBytes(put(1, "a", "x"))[1:])+"\x00"))},
		{"an update of the store's own key", 22, slices.Concat(numbers(1, 2, 1), updateBytes(put(1, "\x00s\x01", "x")))},
		{"code 0", 2, numbers(1, 101, 1, 1, 1, 0, 0)},
		{"code 6", 2, numbers(1, 101, 1, 1, 1, 6, 0)},
		{"a result's version above the limit", 2, numbers(1, 101, 1, 1, 1, 1, top+1)},
		{"a flag of 2", 4, slices.Concat(numbers(1, 101, 1, 1, 1, 2), text("a"))},
		{"nothing found of the store's own key", 4, slices.Concat(numbers(1, 101, 1, 1, 1, 0), text("\x00"))},
		{"nothing found of no key", 4, slices.Concat(numbers(1, 101, 1, 1, 1, 0), text(""))},
		{"nothing found, and a row", 4, slices.Concat(numbers(1, 101, 1, 1, 1, 0), rowBytes(api.Row{Key: "a", Version: 1}))},
		{"found of the store's own key", 4, slices.Concat(numbers(1, 101, 1, 1, 1, 1), rowBytes(api.Row{Key: "\x00s\x01", Version: 1}))},
		{"found of version 0", 4, slices.Concat(numbers(1, 101, 1, 1, 1, 1), rowBytes(api.Row{Key: "a"}))},
		{"found, and a key alone", 4, slices.Concat(numbers(1, 101, 1, 1, 1, 1), text("a"))},
		{"found of a value that is too long", 4, slices.Concat(numbers(1, 101, 1, 1, 1, 1), rowBytes(api.Row{Key: "a", Value: long(65537), Version: 1}))},
		{"a configuration's epoch 0", 7, numbers(0, 1, 0, 1, 1)},
		{"a configuration's epoch above the limit", 7, numbers(0, 1, topEpoch+1, 1, 1)},
		{"no chain", 7, numbers(0, 1, 1, 0)},
		{"a chain of nine", 7, numbers(0, 1, 1, 9, 1, 2, 3, 4, 5, 6, 7, 8, 9)},
		{"a chain with node 0", 7, numbers(0, 1, 1, 2, 1, 0)},
		{"a chain with node 9", 7, numbers(0, 1, 1, 2, 1, 9)},
		{"a chain with a node twice", 7, numbers(0, 1, 1, 3, 1, 2, 1)},
		{"another attempt's token", 15, numbers(3, 2, 1, 4, 5, 3, 0, 0)},
		{"half a token", 15, numbers(3, 2, 1, 4, 5, 0, 1, 0)},
		{"another half of a token", 15, numbers(3, 2, 1, 4, 5, 0, 0, 1)},
		{"a token's seq above the limit", 15, numbers(3, 2, 1, 4, 5, 4, top+1, 0)},
		{"a token's next above the limit", 15, numbers(3, 2, 1, 4, 5, 4, 0, 1<<20+4097)},
		{"opened without a token", 16, append(numbers(3, 2, 4, 5, 0, 0, 0), make([]byte, 32)...)},
		{"opened without a root", 16, numbers(3, 2, 4, 5, 4, 1, 0)},
		{"opened with two roots", 16, append(numbers(3, 2, 4, 5, 4, 1, 0), make([]byte, 64)...)},
		{"level 4", 17, numbers(3, 2, 1, 4, 1, 0)},
		{"no node", 17, numbers(3, 2, 1, 1, 0)},
		{"65 nodes", 17, slices.Concat(numbers(3, 2, 1, 1), listBytes(upTo(65)))},
		{"node 4096", 17, numbers(3, 2, 1, 1, 1, 4096)},
		{"nodes that fall", 17, numbers(3, 2, 1, 1, 2, 5, 4)},
		{"a node twice", 17, numbers(3, 2, 1, 1, 2, 5, 5)},
		{"a digest too few", 18, append(numbers(3, 2, 1, 1, 2, 4, 5), make([]byte, 32)...)},
		{"a digest too many", 18, append(numbers(3, 2, 1, 1, 1, 4), make([]byte, 64)...)},
		{"4097 buckets", 19, slices.Concat(numbers(3, 2, 1), listBytes(upTo(4097)))},
		{"bucket 4096", 19, numbers(3, 2, 1, 1, 4096)},
		{"a bucket twice", 19, numbers(3, 2, 1, 2, 6, 6)},
		{"more buckets than bytes", 19, numbers(3, 2, 1, 4096)},
		{"no piece", 20, numbers(2, 3, 1, 0, 0, 0)},
		{"an index above the limit", 20, numbers(2, 3, 1, 1<<20+4096, 0, 1, 6, 1, 1, 0)},
		{"a last flag of 2", 20, numbers(2, 3, 1, 0, 2, 1, 6, 1, 1, 0)},
		{"a piece's first flag of 2", 20, numbers(2, 3, 1, 0, 0, 1, 6, 2, 1, 0)},
		{"a piece's last flag of 2", 20, numbers(2, 3, 1, 0, 0, 1, 6, 1, 2, 0)},
		{"a piece without rows that goes on", 20, numbers(2, 3, 1, 0, 0, 1, 6, 1, 0, 0)},
		{"a piece without rows that was begun", 20, numbers(2, 3, 1, 0, 0, 1, 6, 0, 1, 0)},
		{"pieces of one bucket", 20, numbers(2, 3, 1, 0, 0, 2, 6, 1, 1, 0, 6, 1, 1, 0)},
		{"a piece of bucket 4096", 20, numbers(2, 3, 1, 0, 0, 1, 4096, 1, 1, 0)},
		{"4097 pieces", 20, slices.Concat(numbers(2, 3, 1, 0, 0, 4097), slices.Repeat([]byte{0, 1, 1, 0}, 4097))},
		{"more pieces than bytes", 20, numbers(2, 3, 1, 0, 0, 4096)},
		{"a row of no key", 20, slices.Concat(numbers(2, 3, 1, 0, 0, 1, 6, 1, 1, 1), rowBytes(api.Row{Version: 1}))},
		{"a row of version 0", 20, slices.Concat(numbers(2, 3, 1, 0, 0, 1, 6, 1, 1, 1), rowBytes(api.Row{Key: "a"}))},
		{"more rows than bytes", 20, slices.Concat(numbers(2, 3, 1, 0, 0, 1, 6, 1, 1, 1<<20))},
		{"rows that weigh too much", 20, slices.Concat(numbers(2, 3, 1), chunkBytes(heavyRows(1)))},
	} {
		refused(t, c.why, framed(t, c.kind, c.body))
	}
}

// P15.6: of any two messages that are not alike the bytes are not the same.
func TestNoTwoShareBytes(t *testing.T) {
	all := map[string]api.Msg{}
	r := rand.New(rand.NewSource(154))
	tell := func(m api.Msg) {
		b, e := message.Encode(m)
		if e != 0 {
			return
		}
		if other, there := all[string(b)]; there && !message.Alike(m, other) {
			t.Fatalf("%s and %s are both %x", brief(m), brief(other), b)
		}
		all[string(b)] = m
	}
	for _, m := range small() {
		tell(m)
		changed(m, func(_ string, c api.Msg) { tell(c) })
	}
	for range 20000 {
		m := anything(r, api.Kind(1+r.Intn(28)))
		tell(m)
		tell(changedAnyhow(r, m))
	}
}

// A list is never made longer than its bytes account for.
func TestRoom(t *testing.T) {
	for _, c := range []struct {
		kind api.Kind
		body []byte
	}{
		{19, numbers(3, 2, 1, 4096)},
		{20, numbers(2, 3, 1, 0, 0, 4096)},
		{20, numbers(2, 3, 1, 0, 0, 1, 6, 1, 1, 15000)},
	} {
		b := framed(t, c.kind, c.body)
		const runs = 200
		var before, after runtime.MemStats
		runtime.ReadMemStats(&before)
		for range runs {
			message.Decode(b)
		}
		runtime.ReadMemStats(&after)
		if n := (after.TotalAlloc - before.TotalAlloc) / runs; n > 1<<14 {
			t.Errorf("%x: %d bytes are set aside", b, n)
		}
	}
}

func FuzzDecode(f *testing.F) {
	for _, m := range small() {
		f.Add(int(m.Kind), body(m))
	}
	f.Fuzz(func(t *testing.T, k int, b []byte) {
		if k >= 1 && k <= 255 && len(b) <= 1<<20 {
			oneForm(t, framed(t, api.Kind(k), b))
		}
	})
}

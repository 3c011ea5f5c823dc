package message_test

import (
	"math"
	"math/rand"
	"reflect"
	"slices"
	"testing"

	"hawser/api"
	"hawser/message"
)

// P15.1, P15.2, P15.6: what may be of each kind.
func TestSamples(t *testing.T) {
	for _, m := range slices.Concat(small(), great()) {
		if fault(m) != 0 {
			t.Fatalf("no sample: %s", brief(m))
		}
		is(t, m)
	}
	r := rand.New(rand.NewSource(151))
	for k := api.Kind(1); k <= 28; k++ {
		for range 400 {
			m := anything(r, k)
			if fault(m) != 0 {
				t.Fatalf("no sample: %s", brief(m))
			}
			is(t, m)
		}
	}
}

func TestExamplesRefused(t *testing.T) {
	for i, c := range []struct {
		m    api.Msg
		want api.Errno
	}{
		{api.Msg{Kind: 10, From: 3, To: 2, Epoch: 1, Seq: 4, Number: 3}, errField},
		{api.Msg{Kind: 9, From: 1, To: 1, Epoch: 1, Update: put(1, "a", "")}, errField},
		{api.Msg{Kind: 29}, errKind},
		{api.Msg{}, errKind},
	} {
		if e := message.Check(c.m); e != c.want {
			t.Errorf("%d: %d", i, e)
		}
		is(t, c.m)
	}
}

// A kind that is none is told ahead of all else.
func TestNoKind(t *testing.T) {
	for _, k := range []api.Kind{0, 29, 30, 127, 128, 255, 256, 257, 284, -1, -28, math.MinInt, math.MaxInt} {
		for _, m := range append(small(), api.Msg{From: -1, To: 9, Epoch: -1}) {
			m.Kind = k
			if e := message.Check(m); e != errKind {
				t.Fatalf("Check(%s): %d", brief(m), e)
			}
			is(t, m)
		}
	}
}

// Every address to every address, for each kind.
func TestWays(t *testing.T) {
	l := []int{math.MinInt, -101, -1, 0, 1, 2, 3, 7, 8, 9, 10, 99, 100, 101, 102, 103, 109, 115, 116, 117, 200, 256, 1 << 32, math.MaxInt}
	taken := map[api.Kind]int{}
	for _, m := range small() {
		for _, from := range l {
			for _, to := range l {
				m.From, m.To = from, to
				for _, client := range []int{m.Client, from - 100, to - 100} {
					c := m
					if has(m.Kind, "Client") {
						c.Client = client
					}
					is(t, c)
					if fault(c) == 0 {
						taken[m.Kind]++
					}
				}
			}
		}
	}
	for k := api.Kind(1); k <= 28; k++ {
		if taken[k] == 0 {
			t.Errorf("kind %d was never taken", k)
		}
	}
}

// edges are the numbers about each limit that the chapter names.
func edges() []int {
	l := []int{math.MinInt, math.MinInt + 1, math.MaxInt - 1, math.MaxInt}
	for _, n := range []int{0, 1, 3, 5, 8, 16, 64, 127, 1 << 12, 1<<20 + 4095, 1<<20 + 4096, topEpoch, top} {
		l = append(l, -n-1, -n, n-1, n, n+1)
	}
	return l
}

// texts are those about each limit of a key and a value.
func texts() []string {
	return []string{"", "\x00", "\x00s\x01", "\x01", "a", "\xff", long(1024), long(1025), "\x00" + long(1023), long(65536), long(65537)}
}

// leaves goes over all that a message has, at places that may be changed.
func leaves(v reflect.Value, path string, tell func(path string, v reflect.Value)) {
	switch v.Kind() {
	case reflect.Struct:
		for i := range v.NumField() {
			leaves(v.Field(i), path+"."+v.Type().Field(i).Name, tell)
		}
	case reflect.Slice, reflect.Array:
		if v.Kind() == reflect.Slice {
			tell(path, v)
		}
		for i := range v.Len() {
			leaves(v.Index(i), path+"[]", tell)
		}
	default:
		tell(path, v)
	}
}

// changed tells of a message all those in which one thing is another one.
func changed(m api.Msg, tell func(path string, m api.Msg)) {
	own := clone(m)
	leaves(reflect.ValueOf(&own).Elem(), "", func(path string, v reflect.Value) {
		old := reflect.New(v.Type()).Elem()
		old.Set(v)
		try := func(x reflect.Value) {
			v.Set(x)
			tell(path, clone(own))
			v.Set(old)
		}
		switch v.Kind() {
		case reflect.Int:
			for _, n := range append(edges(), int(old.Int())-1, int(old.Int())+1) {
				try(reflect.ValueOf(n).Convert(v.Type()))
			}
		case reflect.String:
			for _, s := range texts() {
				try(reflect.ValueOf(s))
			}
		case reflect.Bool:
			try(reflect.ValueOf(!old.Bool()))
		case reflect.Uint8:
			try(reflect.ValueOf(byte(old.Uint() + 1)))
		case reflect.Slice:
			for _, x := range lists(old) {
				try(x)
			}
		}
	})
}

// lists are those with a thing more or less than a list, or in another order.
func lists(l reflect.Value) []reflect.Value {
	zero := reflect.MakeSlice(l.Type(), 1, 1)
	n := l.Len()
	all := []reflect.Value{
		reflect.Zero(l.Type()), reflect.MakeSlice(l.Type(), 0, 3), zero,
		reflect.AppendSlice(l.Slice3(0, n, n), zero),
	}
	if n > 0 {
		twice := reflect.AppendSlice(l.Slice3(0, n, n), l)
		turned := reflect.MakeSlice(l.Type(), n, n)
		for i := range n {
			turned.Index(i).Set(l.Index(n - 1 - i))
		}
		all = append(all, l.Slice3(0, n-1, n-1), l.Slice3(1, n, n), twice, turned)
	}
	return all
}

// P15.1: each thing of each message changed, those that the kind does not name among them.
func TestOneThingChanged(t *testing.T) {
	good, bad := 0, map[string]int{}
	for _, m := range small() {
		changed(m, func(path string, c api.Msg) {
			is(t, c)
			if fault(c) == 0 {
				good++
			} else {
				bad[path]++
			}
		})
	}
	if good < 500 {
		t.Errorf("only %d may be", good)
	}
	for _, path := range []string{".Kind", ".From", ".To", ".Epoch", ".Attempt", ".Client", ".Number", ".Seq", ".Key", ".Op.Kind", ".Op.Key", ".Op.Value", ".Op.Version", ".Update.Seq", ".Update.Client", ".Update.Number", ".Update.Op.Kind", ".Result.Code", ".Result.Version", ".Row.Key", ".Row.Value", ".Row.Version", ".Found", ".Config.Epoch", ".Config.Chain", ".Config.Chain[]", ".Level", ".Buckets", ".Buckets[]", ".Digests", ".Chunk.Index", ".Chunk.Pieces", ".Chunk.Pieces[].Bucket", ".Chunk.Pieces[].First", ".Chunk.Pieces[].Last", ".Chunk.Pieces[].Rows", ".Chunk.Pieces[].Rows[].Key", ".Chunk.Pieces[].Rows[].Value", ".Chunk.Pieces[].Rows[].Version", ".Chunk.Last", ".Token.Transfer", ".Token.Seq", ".Token.Next"} {
		if bad[path] == 0 {
			t.Errorf("%s was never refused", path)
		}
	}
}

// Two things changed at once: what two fields say of one another.
func TestTwoThingsChanged(t *testing.T) {
	r := rand.New(rand.NewSource(152))
	for range 30000 {
		m := anything(r, api.Kind(1+r.Intn(28)))
		for range 2 {
			m = changedAnyhow(r, m)
		}
		is(t, m)
	}
}

func changedAnyhow(r *rand.Rand, m api.Msg) api.Msg {
	m = clone(m)
	var all []reflect.Value
	leaves(reflect.ValueOf(&m).Elem(), "", func(_ string, v reflect.Value) { all = append(all, v) })
	v := all[r.Intn(len(all))]
	switch v.Kind() {
	case reflect.Int:
		l := append(edges(), m.From, m.To, m.Attempt, m.Seq, m.Number)
		v.SetInt(int64(l[r.Intn(len(l))]))
	case reflect.String:
		l := []string{"", "\x00", "a", "ab", "\xff", long(1024), long(1025)}
		v.SetString(l[r.Intn(len(l))])
	case reflect.Bool:
		v.SetBool(!v.Bool())
	case reflect.Slice:
		l := lists(v)
		v.Set(l[r.Intn(len(l))])
	}
	return m
}

// The chunks about each limit, and those that break one rule each.
func TestChunks(t *testing.T) {
	row := func(key string) api.Row { return api.Row{Key: key, Version: 1} }
	one := func(p ...api.Piece) api.Chunk { return api.Chunk{Pieces: p} }
	whole := func(bucket int, rows ...api.Row) api.Piece {
		return api.Piece{Bucket: bucket, First: true, Last: true, Rows: rows}
	}
	begun := func(bucket int, rows ...api.Row) api.Piece {
		return api.Piece{Bucket: bucket, First: true, Rows: rows}
	}
	ended := func(bucket int, rows ...api.Row) api.Piece {
		return api.Piece{Bucket: bucket, Last: true, Rows: rows}
	}
	longest := api.Row{Key: long(1024), Value: long(65536), Version: top}
	many := manyPieces()
	for i, c := range []struct {
		chunk api.Chunk
		may   bool
	}{
		{one(whole(0)), true},
		{api.Chunk{}, false},
		{api.Chunk{Last: true}, false},
		{api.Chunk{Index: -1, Pieces: one(whole(0)).Pieces}, false},
		{api.Chunk{Index: 1<<20 + 4095, Pieces: one(whole(0)).Pieces}, true},
		{api.Chunk{Index: 1<<20 + 4096, Pieces: one(whole(0)).Pieces}, false},
		{one(whole(4095)), true},
		{one(whole(4096)), false},
		{one(whole(-1)), false},
		{one(begun(3)), false},
		{one(ended(3)), false},
		{one(api.Piece{Bucket: 3}), false},
		{one(begun(3, row("a"))), true},
		{one(ended(3, row("a"))), true},
		{one(api.Piece{Bucket: 3, Rows: []api.Row{row("a")}}), true},
		{one(ended(3, row("a")), whole(4), begun(5, row("b"))), true},
		{one(begun(3, row("a")), whole(4)), false},
		{one(whole(3), ended(4, row("a"))), false},
		{one(whole(3), ended(4, row("a")), whole(5)), false},
		{one(whole(3), begun(4, row("a")), whole(5)), false},
		{one(whole(3), whole(3)), false},
		{one(whole(4), whole(3)), false},
		{one(whole(3, row("b")), whole(4, row("a"))), true}, // of each piece alone the keys must rise
		{one(whole(3, row("a")), whole(4, row("a"))), true},
		{one(whole(3, row("a"), row("b"))), true},
		{one(whole(3, row("a"), row("a"))), false},
		{one(whole(3, row("b"), row("a"))), false},
		{one(whole(3, row("a"), row("a\x00"))), true},
		{one(whole(3, row("\x00s\x01"))), true}, // the store's own keys, too
		{one(whole(3, row("\x00"))), true},
		{one(whole(3, row(""))), false},
		{one(whole(3, row(long(1024)))), true},
		{one(whole(3, row(long(1025)))), false},
		{one(whole(3, api.Row{Key: "a", Version: 0})), false},
		{one(whole(3, api.Row{Key: "a", Version: top})), true},
		{one(whole(3, api.Row{Key: "a", Version: top + 1})), false},
		{one(whole(3, api.Row{Key: "a", Value: long(65536), Version: 1})), true},
		{one(whole(3, api.Row{Key: "a", Value: long(65537), Version: 1})), false},
		{one(whole(3, longest)), true},
		{heavyRows(0), true},
		{heavyRows(1), false},
		{heavyRows(-1), true},
		{one(append(heavyRows(0).Pieces, whole(7))...), true},
		{one(append(heavyRows(0).Pieces, whole(7, row("a")))...), false},
		{one(append(heavyRows(-17).Pieces, whole(7, row("a")))...), true},
		{one(append(heavyRows(-16).Pieces, whole(7, row("a")))...), false},
		{manyRows(), true},
		{many, true},
		{one(append(slices.Clone(many.Pieces), whole(4096))...), false},
		{one(slices.Repeat(many.Pieces, 2)...), false},
		{one(begun(3, slices.Repeat([]api.Row{row("a")}, 1<<20)...)), false},
	} {
		m := api.Msg{Kind: 20, From: 2, To: 3, Attempt: 1, Chunk: c.chunk}
		want := errField
		if c.may {
			want = 0
		}
		if e := message.Check(m); e != want {
			t.Errorf("%d: %d, want %d", i, e, want)
		}
		is(t, m)
	}
}

// One list of rows in very many pieces: what is too heavy is told early.
func TestChunkOfSharedRows(t *testing.T) {
	var rows []api.Row
	for n := range 1 << 16 {
		rows = append(rows, api.Row{Key: key2(n) + "k", Version: 1})
	}
	c := api.Chunk{}
	for n := range 1 << 16 {
		c.Pieces = append(c.Pieces, api.Piece{Bucket: n, First: true, Last: true, Rows: rows})
	}
	for _, n := range []int{2, 4096, 1 << 16} {
		m := api.Msg{Kind: 20, From: 2, To: 3, Attempt: 1, Chunk: api.Chunk{Pieces: c.Pieces[:n]}}
		if e := message.Check(m); e != errField {
			t.Errorf("%d", e)
		}
		if b, e := message.Encode(m); e != errField || len(b) != 0 {
			t.Errorf("%d", e)
		}
	}
}

// P15.2: every message that may be has a body of less than MaxBody bytes.
func TestBodiesAreShort(t *testing.T) {
	longest := 0
	for _, m := range great() {
		b, e := message.Encode(m)
		if e != 0 || len(b)-14 >= 1<<20 {
			t.Errorf("%s: %d bytes, %d", brief(m), len(b), e)
		}
		longest = max(longest, len(b))
	}
	if longest < 1<<17 {
		t.Errorf("%d bytes at most", longest)
	}
}

// Numbers that are too many for a list, with lists that are as long.
func TestLongLists(t *testing.T) {
	long := upTo(1 << 20)
	for _, m := range small() {
		for _, n := range []int{64, 65, 4096, 4097, 1 << 20} {
			c := m
			c.Buckets = long[:n]
			c.Digests = make([]api.Digest, n)
			is(t, c)
			c.Digests = m.Digests
			is(t, c)
			c = m
			c.Config.Chain = long[1:n]
			is(t, c)
		}
	}
	for n := range 10 {
		m := api.Msg{Kind: 7, From: 0, To: 1, Config: api.Config{Epoch: 1, Chain: long[1 : n+1]}}
		if e := message.Check(m); (e == 0) != (n >= 1 && n <= 8) {
			t.Errorf("a chain of %d: %d", n, e)
		}
	}
}

// R4: the same again answers the same.
func TestSameAgain(t *testing.T) {
	for _, m := range small() {
		first, _ := message.Encode(m)
		for range 20 {
			if b, e := message.Encode(m); e != 0 || string(b) != string(first) {
				t.Fatalf("%s: %x, %d", brief(m), b, e)
			}
		}
	}
}

package message_test

import (
	"math/rand"
	"strings"

	"hawser/api"
)

func long(n int) string { return strings.Repeat("k", n) }

func digest(b byte) api.Digest {
	var d api.Digest
	for i := range d {
		d[i] = b + byte(i)
	}
	return d
}

func put(n int, key, value string) api.Update {
	return api.Update{Seq: n, Client: 1, Number: n, Op: api.Op{Kind: 1, Key: key, Value: value}}
}

func upTo(n int) []int {
	l := make([]int, n)
	for i := range l {
		l[i] = i
	}
	return l
}

// small has of each kind a message of few bytes, and of some kinds several.
func small() []api.Msg {
	rows := []api.Row{{Key: "\x00s\x01", Value: "\x01\x01\x01", Version: 1}, {Key: "a", Value: "x", Version: 2}}
	return []api.Msg{
		{Kind: 1, From: 102, To: 1, Client: 2, Number: 3, Op: api.Op{Kind: 1, Key: "a", Value: "x"}},
		{Kind: 1, From: 116, To: 8, Client: 16, Number: 300, Op: api.Op{Kind: 2, Key: "ab"}},
		{Kind: 1, From: 101, To: 2, Client: 1, Number: 1, Op: api.Op{Kind: 3, Key: "a", Value: "y", Version: 130}},
		{Kind: 2, From: 1, To: 101, Epoch: 1, Client: 1, Number: 9, Result: api.Result{Code: 1, Version: 200}},
		{Kind: 2, From: 8, To: 116, Epoch: 130, Client: 16, Number: 1, Result: api.Result{Code: 5}},
		{Kind: 3, From: 101, To: 3, Client: 1, Number: 128, Key: "ab"},
		{Kind: 4, From: 1, To: 101, Epoch: 1, Client: 1, Number: 9, Row: api.Row{Key: "a"}},
		{Kind: 4, From: 2, To: 109, Epoch: 3, Client: 9, Number: 200, Found: true, Row: api.Row{Key: "a", Value: "xy", Version: 7}},
		{Kind: 4, From: 2, To: 109, Epoch: 3, Client: 9, Number: 2, Found: true, Row: api.Row{Key: "\xff", Version: 1}},
		{Kind: 5, From: 7, To: 103, Client: 3, Number: 4, Config: api.Config{Epoch: 5, Chain: []int{3, 1, 8}}},
		{Kind: 6, From: 3, To: 0},
		{Kind: 6, From: 3, To: 0, Epoch: 6, Attempt: 150},
		{Kind: 6, From: 105, To: 0, Epoch: 6},
		{Kind: 7, From: 0, To: 4, Config: api.Config{Epoch: 300, Chain: []int{4}}},
		{Kind: 7, From: 0, To: 104, Config: api.Config{Epoch: 1, Chain: []int{8, 7, 6, 5, 4, 3, 2, 1}}},
		{Kind: 8, From: 2, To: 0, Epoch: 5},
		{Kind: 9, From: 1, To: 2, Epoch: 1, Update: put(4, "k", "v")},
		{Kind: 9, From: 8, To: 7, Epoch: 200, Update: api.Update{Seq: 300, Client: 16, Number: 128, Op: api.Op{Kind: 3, Key: "a"}}},
		{Kind: 10, From: 3, To: 2, Epoch: 1, Seq: 4, Number: 6},
		{Kind: 10, From: 3, To: 2, Epoch: 1},
		{Kind: 11, From: 1, To: 3, Epoch: 2, Client: 4, Number: 5},
		{Kind: 12, From: 3, To: 1, Epoch: 2, Client: 4, Number: 5, Seq: 200},
		{Kind: 13, From: 5, To: 0, Number: 2},
		{Kind: 14, From: 0, To: 3, Attempt: 2, Number: 1, Config: api.Config{Epoch: 4, Chain: []int{1, 2}}},
		{Kind: 15, From: 3, To: 2, Epoch: 4, Attempt: 2, Number: 1},
		{Kind: 15, From: 3, To: 2, Epoch: 4, Attempt: 200, Number: 3, Token: api.Token{Transfer: 200, Seq: 9, Next: 130}},
		{Kind: 15, From: 3, To: 2, Epoch: 4, Attempt: 2, Number: 3, Token: api.Token{Transfer: 2}},
		{Kind: 16, From: 2, To: 3, Attempt: 2, Number: 1, Seq: 9, Token: api.Token{Transfer: 2, Seq: 9, Next: 1}, Digests: []api.Digest{digest(7)}},
		{Kind: 16, From: 2, To: 3, Attempt: 2, Number: 1, Token: api.Token{Transfer: 2}, Digests: []api.Digest{{}}},
		{Kind: 17, From: 3, To: 2, Attempt: 2, Buckets: []int{0}},
		{Kind: 17, From: 3, To: 2, Attempt: 2, Level: 3, Buckets: []int{0, 127, 128, 4095}},
		{Kind: 18, From: 2, To: 3, Attempt: 2, Level: 1, Buckets: []int{3, 15}, Digests: []api.Digest{digest(1), digest(99)}},
		{Kind: 19, From: 3, To: 2, Attempt: 2},
		{Kind: 19, From: 3, To: 2, Attempt: 2, Buckets: []int{6, 200, 4095}},
		{Kind: 20, From: 2, To: 3, Attempt: 2, Chunk: api.Chunk{Pieces: []api.Piece{{First: true, Last: true}}}},
		{Kind: 20, From: 2, To: 3, Attempt: 2, Chunk: api.Chunk{Index: 130, Last: true, Pieces: []api.Piece{
			{Bucket: 0, Last: true, Rows: rows[:1]}, {Bucket: 6, First: true, Last: true, Rows: rows[1:]}, {Bucket: 7, First: true, Last: true}, {Bucket: 4095, First: true, Rows: rows},
		}}},
		{Kind: 21, From: 3, To: 2, Attempt: 2, Seq: 3},
		{Kind: 21, From: 3, To: 2, Attempt: 2},
		{Kind: 22, From: 2, To: 3, Attempt: 2, Update: api.Update{Seq: 9, Client: 2, Number: 7, Op: api.Op{Kind: 2, Key: "k"}}},
		{Kind: 23, From: 3, To: 2, Attempt: 2, Number: 1, Seq: 9},
		{Kind: 24, From: 3, To: 2, Attempt: 2},
		{Kind: 24, From: 3, To: 0, Attempt: 2},
		{Kind: 25, From: 3, To: 0, Attempt: 2, Number: 1, Seq: 9},
		{Kind: 26, From: 0, To: 2, Epoch: 4, Attempt: 2, Number: 3},
		{Kind: 27, From: 2, To: 0, Epoch: 4, Attempt: 2, Seq: 9},
		{Kind: 28, From: 0, To: 2, Epoch: 4, Attempt: 2},
	}
}

// great has messages whose fields are as great as they may be.
func great() []api.Msg {
	chain := []int{8, 7, 6, 5, 4, 3, 2, 1}
	update := api.Update{Seq: top, Client: 16, Number: top, Op: api.Op{Kind: 3, Key: long(1024), Value: long(65536), Version: top}}
	row := api.Row{Key: "\xff" + long(1023), Value: long(65536), Version: top}
	sixty := upTo(4096)[4096-64:]
	return []api.Msg{
		{Kind: 1, From: 116, To: 8, Client: 16, Number: top, Op: update.Op},
		{Kind: 2, From: 8, To: 116, Epoch: topEpoch, Client: 16, Number: top, Result: api.Result{Code: 5, Version: top}},
		{Kind: 3, From: 116, To: 8, Client: 16, Number: top, Key: long(1024)},
		{Kind: 4, From: 8, To: 116, Epoch: topEpoch, Client: 16, Number: top, Found: true, Row: row},
		{Kind: 4, From: 8, To: 116, Epoch: topEpoch, Client: 16, Number: top, Row: api.Row{Key: row.Key}},
		{Kind: 5, From: 8, To: 116, Client: 16, Number: top, Config: api.Config{Epoch: topEpoch, Chain: chain}},
		{Kind: 6, From: 8, To: 0, Epoch: topEpoch, Attempt: top},
		{Kind: 6, From: 116, To: 0, Epoch: topEpoch},
		{Kind: 7, From: 0, To: 116, Config: api.Config{Epoch: topEpoch, Chain: chain}},
		{Kind: 8, From: 8, To: 0, Epoch: topEpoch},
		{Kind: 9, From: 8, To: 7, Epoch: topEpoch, Update: update},
		{Kind: 10, From: 8, To: 7, Epoch: topEpoch, Seq: top, Number: top},
		{Kind: 10, From: 8, To: 7, Epoch: topEpoch, Seq: 0, Number: top},
		{Kind: 11, From: 8, To: 7, Epoch: topEpoch, Client: 16, Number: top},
		{Kind: 12, From: 8, To: 7, Epoch: topEpoch, Client: 16, Number: top, Seq: top},
		{Kind: 13, From: 8, To: 0, Number: top},
		{Kind: 14, From: 0, To: 8, Attempt: top, Number: top, Config: api.Config{Epoch: topEpoch, Chain: chain}},
		{Kind: 15, From: 8, To: 7, Epoch: topEpoch, Attempt: top, Number: top, Token: api.Token{Transfer: top, Seq: top, Next: 1<<20 + 4096}},
		{Kind: 16, From: 8, To: 7, Attempt: top, Number: top, Seq: top, Token: api.Token{Transfer: top, Seq: top, Next: 1<<20 + 4096}, Digests: []api.Digest{digest(255)}},
		{Kind: 17, From: 8, To: 7, Attempt: top, Level: 3, Buckets: sixty},
		{Kind: 18, From: 8, To: 7, Attempt: top, Level: 3, Buckets: sixty, Digests: make([]api.Digest, 64)},
		{Kind: 19, From: 8, To: 7, Attempt: top, Buckets: upTo(4096)},
		{Kind: 20, From: 8, To: 7, Attempt: top, Chunk: api.Chunk{Index: 1<<20 + 4095, Last: true, Pieces: []api.Piece{{Bucket: 4095, Rows: []api.Row{row}}}}},
		{Kind: 20, From: 8, To: 7, Attempt: top, Chunk: manyRows()},
		{Kind: 20, From: 8, To: 7, Attempt: top, Chunk: heavyRows(0)},
		{Kind: 20, From: 8, To: 7, Attempt: top, Chunk: manyPieces()},
		{Kind: 21, From: 8, To: 7, Attempt: top, Seq: top},
		{Kind: 22, From: 8, To: 7, Attempt: top, Update: update},
		{Kind: 23, From: 8, To: 7, Attempt: top, Number: top, Seq: top},
		{Kind: 24, From: 8, To: 7, Attempt: top},
		{Kind: 25, From: 8, To: 0, Attempt: top, Number: top, Seq: top},
		{Kind: 26, From: 0, To: 7, Epoch: topEpoch, Attempt: top, Number: 8},
		{Kind: 27, From: 8, To: 0, Epoch: topEpoch, Attempt: top, Seq: top},
		{Kind: 28, From: 0, To: 8, Epoch: topEpoch, Attempt: top},
	}
}

// key2 is the n-th of texts of two bytes.
func key2(n int) string { return string([]byte{byte(n >> 8), byte(n)}) }

// manyRows is a chunk of as many rows as there can be with keys of two bytes.
func manyRows() api.Chunk {
	weight, c := 0, api.Chunk{Pieces: []api.Piece{{Bucket: 5}}}
	for n := 0; weight+18 <= 1<<18 && n < 1<<16; n++ {
		c.Pieces[0].Rows = append(c.Pieces[0].Rows, api.Row{Key: key2(n), Version: top})
		weight += 18
	}
	return c
}

// heavyRows is a chunk whose rows weigh MaxChunk, and so many bytes more.
func heavyRows(more int) api.Chunk {
	const value = 1<<16 - 1024 - 16 // four such rows are MaxChunk
	var rows []api.Row
	for n := range 4 {
		rows = append(rows, api.Row{Key: long(1023) + string([]byte{byte('a' + n)}), Value: long(value), Version: 1})
	}
	rows[3].Value = long(value + more)
	return api.Chunk{Last: true, Pieces: []api.Piece{{Bucket: 6, First: true, Last: true, Rows: rows}}}
}

// manyPieces is a chunk of as many pieces as there can be, each with rows.
func manyPieces() api.Chunk {
	var c api.Chunk
	for n := range 4096 {
		p := api.Piece{Bucket: n, First: true, Last: true}
		for k := range 3 {
			p.Rows = append(p.Rows, api.Row{Key: string([]byte{byte(k)}) + key2(n), Version: top})
		}
		c.Pieces = append(c.Pieces, p)
	}
	return c
}

// some makes a number of any length.
func some(r *rand.Rand, most int) int { return 1 + r.Intn(min(most, 1<<r.Intn(61))) }

func anyText(r *rand.Rand, least, most int) string {
	b := make([]byte, least+r.Intn(1+min(most-least, 1<<r.Intn(8))))
	r.Read(b)
	return string(b)
}

func anyKey(r *rand.Rand) string { return string([]byte{byte(1 + r.Intn(255))}) + anyText(r, 0, 300) }

func anyOp(r *rand.Rand) api.Op {
	op := api.Op{Kind: api.OpKind(1 + r.Intn(3)), Key: anyKey(r)}
	if op.Kind != 2 {
		op.Value = anyText(r, 0, 300)
	}
	if op.Kind == 3 {
		op.Version = some(r, top) - 1
	}
	return op
}

func anyRising(r *rand.Rand, least, most int) []int {
	n := least + r.Intn(1+min(most-least, 1<<r.Intn(7)))
	l, v := []int{}, 0
	for i := range n {
		v += r.Intn(1 + (4095-v-(n-i-1))/(n-i))
		l = append(l, v)
		v++
	}
	return l
}

func anyChunk(r *rand.Rand) api.Chunk {
	c := api.Chunk{Index: r.Intn(1<<20 + 4096), Last: r.Intn(2) == 0}
	l := anyRising(r, 1, 20)
	for i, bucket := range l {
		p := api.Piece{Bucket: bucket, First: i > 0 || r.Intn(2) == 0, Last: i < len(l)-1 || r.Intn(2) == 0}
		key := ""
		for range r.Intn(4) {
			key += anyText(r, 1, 20)
			p.Rows = append(p.Rows, api.Row{Key: key, Value: anyText(r, 0, 30), Version: some(r, top)})
		}
		if len(p.Rows) == 0 {
			p.First, p.Last = true, true
		}
		c.Pieces = append(c.Pieces, p)
	}
	return c
}

// address makes one of a side.
func address(r *rand.Rand, side string) int {
	switch side {
	case "n":
		return 1 + r.Intn(8)
	case "c":
		return 101 + r.Intn(16)
	}
	return 0
}

// anything makes a message of a kind that may be.
func anything(r *rand.Rand, k api.Kind) api.Msg {
	m := api.Msg{Kind: k}
	l := strings.Fields(table()[k-1].ways)
	from, to, _ := strings.Cut(l[r.Intn(len(l))], ">")
	for m.From == m.To {
		m.From, m.To = address(r, from), address(r, to)
	}
	for _, f := range fieldsOf(k) {
		fill(r, &m, f)
	}
	return m
}

func fill(r *rand.Rand, m *api.Msg, field string) {
	switch field {
	case "Epoch":
		m.Epoch = some(r, topEpoch)
	case "Since":
		m.Epoch = some(r, topEpoch+1) - 1
	case "Attempt":
		m.Attempt = some(r, top)
	case "Attempt0":
		if m.From <= 100 {
			m.Attempt = some(r, top) - 1
		}
	case "Client":
		m.Client = max(m.From, m.To) - 100
		if m.Client < 0 {
			m.Client = 1 + r.Intn(16)
		}
	case "Number", "Boot":
		m.Number = some(r, top)
	case "Upto":
		m.Number = m.Seq + r.Intn(top-m.Seq+1)
	case "Joiner":
		m.Number = 1 + (m.To+r.Intn(7))%8
	case "Seq":
		m.Seq = some(r, top) - 1
	case "Key":
		m.Key = anyKey(r)
	case "Op":
		m.Op = anyOp(r)
	case "Update":
		m.Update = api.Update{Seq: some(r, top), Client: 1 + r.Intn(16), Number: some(r, top), Op: anyOp(r)}
	case "Result":
		m.Result = api.Result{Code: api.Code(1 + r.Intn(5)), Version: some(r, top) - 1}
	case "Found":
		m.Found, m.Row.Key = r.Intn(2) == 0, anyKey(r)
		if m.Found {
			m.Row.Value, m.Row.Version = anyText(r, 0, 300), some(r, top)
		}
	case "Config":
		m.Config = api.Config{Epoch: some(r, topEpoch), Chain: r.Perm(8)[:1+r.Intn(8)]}
		for i := range m.Config.Chain {
			m.Config.Chain[i]++
		}
	case "Token":
		if m.Kind == 16 || r.Intn(2) == 0 {
			m.Token = api.Token{Transfer: m.Attempt, Seq: some(r, top) - 1, Next: r.Intn(1<<20 + 4097)}
		}
		if m.Kind == 16 {
			m.Seq = m.Token.Seq
		}
	case "Root", "Digests":
		for range max(1, len(m.Buckets)) {
			m.Digests = append(m.Digests, digest(byte(r.Intn(256))))
		}
	case "Level":
		m.Level = r.Intn(4)
	case "Nodes":
		m.Buckets = anyRising(r, 1, 64)
	case "Buckets":
		m.Buckets = anyRising(r, 0, 4096)
	case "Chunk":
		m.Chunk = anyChunk(r)
	}
}

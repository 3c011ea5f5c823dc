package sender_test

import (
	"fmt"
	"math/rand"
	"slices"
	"strings"
	"testing"

	"hawser/api"
	"hawser/delta"
	"hawser/merkle"
	"hawser/message"
	"hawser/probe"
	"hawser/sender"
)

// The errors by their numbers, as the chapter has them.
const (
	errArg   = api.Errno(1)
	errMade  = api.Errno(2)
	errDepth = api.Errno(61)
	errLong  = api.Errno(90)
	errState = api.Errno(91)
	errMsg   = api.Errno(170)
	errSeq   = api.Errno(172)
	errWant  = api.Errno(173)
)

const top = 1 << 60

// small are the settings of the chapter's examples.
func small() api.Settings {
	return api.Settings{Depth: 1, Window: 2, Patience: 3, Chunk: 64, Deltas: 2}
}

func long(n int) string { return strings.Repeat("k", n) }

func put(seq int, key, value string) api.Update {
	return api.Update{Seq: seq, Client: 1, Number: seq, Op: api.Op{Kind: 1, Key: key, Value: value}}
}

// two is a store of the chapter's examples: a and b, and the session of client 1.
func two() *delta.Store {
	s := delta.New()
	for i, key := range []string{"a", "b"} {
		if _, e := s.Apply(put(i+1, key, string([]byte{byte('x' + i)}))); e != 0 {
			panic(e)
		}
	}
	return s
}

// rows are n rows whose keys rise, spread over the buckets, with values of up to so many bytes, and versions of 1 to 5.
func rows(n, size int) []api.Row {
	var l []api.Row
	for i := range n {
		key := string([]byte{byte(1 + i*255/n), byte(i >> 8), byte(i)})
		l = append(l, api.Row{Key: key, Value: long((i*7 + i/3) % (size + 1)), Version: 1 + i%5})
	}
	return l
}

func load(s api.State) *delta.Store {
	x, e := delta.Load(s)
	if e != 0 {
		panic(e)
	}
	return x
}

// The chapter's words written out plainly.

func weight(r api.Row) int { return len(r.Key) + len(r.Value) + 16 }

func weightOf(c api.Chunk) (n, count int) {
	for _, p := range c.Pieces {
		for _, r := range p.Rows {
			n, count = n+weight(r), count+1
		}
	}
	return n, count
}

// digits is the bucket of a key, by the chapter of spans.
func digits(depth int, key string) int {
	n := 0
	for i := range depth {
		d := 0
		if i/2 < len(key) {
			d = int(key[i/2]) >> 4
			if i%2 == 1 {
				d = int(key[i/2]) & 15
			}
		}
		n = 16*n + d
	}
	return n
}

// cutting are the chunks of a state that may be: each row by itself into the chunk at hand or the next one.
func cutting(s api.State, depth, bytes int, buckets []int) []api.Chunk {
	if len(buckets) == 0 {
		return nil
	}
	chunks := []api.Chunk{{}}
	for _, b := range buckets {
		var mine []api.Row
		for _, r := range s.Rows {
			if digits(depth, r.Key) == b {
				mine = append(mine, r)
			}
		}
		if len(mine) == 0 {
			c := &chunks[len(chunks)-1]
			c.Pieces = append(c.Pieces, api.Piece{Bucket: b, First: true, Last: true})
		}
		for i, r := range mine {
			if w, n := weightOf(chunks[len(chunks)-1]); n > 0 && w+weight(r) > bytes {
				chunks = append(chunks, api.Chunk{Index: len(chunks)})
			}
			c := &chunks[len(chunks)-1]
			if n := len(c.Pieces); n == 0 || c.Pieces[n-1].Bucket != b {
				c.Pieces = append(c.Pieces, api.Piece{Bucket: b, First: i == 0})
			}
			p := &c.Pieces[len(c.Pieces)-1]
			p.Rows = append(p.Rows, r)
			p.Last = i == len(mine)-1
		}
	}
	chunks[len(chunks)-1].Last = true
	return chunks
}

// model is a sender.
type model struct {
	attempt int
	set     api.Settings
	state   api.State
	tree    *merkle.Tree
	phase   api.Phase
	boot    int
	wanted  []int
	chunks  []api.Chunk
	got     int
	sent    int
	kept    []api.Update
	fallen  bool
	caught  int
	fed     int
	last    int
	clock   int
}

func modelOf(attempt int, s *delta.Store, set api.Settings) *model {
	tree, e := merkle.Of(set.Depth, s.Table())
	if e != 0 {
		panic(e)
	}
	n := s.Seq()
	return &model{attempt: attempt, set: set, state: s.State(), tree: tree, phase: api.PhaseProbe, caught: n, fed: n, last: n}
}

func (m *model) out(k api.Kind) api.Msg { return api.Msg{Kind: k, Attempt: m.attempt} }

func (m *model) chunk(i int) api.Msg {
	x := m.out(api.KindChunk)
	x.Chunk = m.chunks[i]
	return x
}

func (m *model) update(seq int) (api.Msg, bool) {
	x := m.out(api.KindDelta)
	for _, u := range m.kept {
		if u.Seq == seq {
			x.Update = u
			return x, true
		}
	}
	return x, false
}

func (m *model) sendOn() []api.Msg {
	var l []api.Msg
	if m.phase == api.PhaseProbe || m.phase == api.PhaseAborted {
		return nil
	}
	for m.sent < len(m.chunks) && m.sent < m.got+m.set.Window {
		l = append(l, m.chunk(m.sent))
		m.sent++
	}
	for m.fed < m.last && m.fed < m.caught+m.set.Window {
		x, there := m.update(m.fed + 1)
		if !there {
			panic("an update that is not kept")
		}
		l = append(l, x)
		m.fed++
	}
	return l
}

func (m *model) giveUp() []api.Msg {
	m.phase = api.PhaseAborted
	m.kept, m.chunks, m.got = nil, nil, 0
	return []api.Msg{m.out(api.KindAbort)}
}

func (m *model) take(x api.Msg) ([]api.Msg, api.Errno) {
	if k := x.Kind; k != 15 && k != 17 && k != 19 && k != 21 && k != 23 && k != 24 || x.Attempt != m.attempt {
		return nil, errMsg
	}
	if m.phase == api.PhaseAborted {
		if x.Kind == 24 {
			return nil, 0
		}
		return []api.Msg{m.out(api.KindAbort)}, 0
	}
	l, e := m.does(x)
	if m.phase == api.PhaseDeltas {
		for len(m.kept) > 0 && m.kept[0].Seq <= m.caught {
			m.kept, m.fallen = m.kept[1:], true
		}
	}
	return l, e
}

func (m *model) does(x api.Msg) ([]api.Msg, api.Errno) {
	switch x.Kind {
	case 15:
		return m.open(x)
	case 17:
		d, e := probe.Answer(m.tree, x.Level, x.Buckets...)
		if e != 0 {
			return nil, errMsg
		}
		y := m.out(api.KindDigests)
		y.Level, y.Buckets, y.Digests = x.Level, slices.Clone(x.Buckets), d
		return []api.Msg{y}, 0
	case 19:
		return m.want(x)
	case 21:
		if x.Seq < 0 || x.Seq > m.sent {
			return nil, errMsg
		}
		if x.Seq > m.got {
			m.got, m.clock = x.Seq, 0
			if m.got == len(m.chunks) {
				m.phase = api.PhaseDeltas
			}
			return m.sendOn(), 0
		}
	case 23:
		if x.Number != m.boot {
			return nil, 0
		}
		if x.Seq > m.fed {
			return nil, errMsg
		}
		if x.Seq > m.caught {
			m.caught, m.clock = x.Seq, 0
			return m.sendOn(), 0
		}
	case 24:
		m.giveUp()
	}
	return nil, 0
}

func (m *model) open(x api.Msg) ([]api.Msg, api.Errno) {
	if x.Number < 1 {
		return nil, errMsg
	}
	if x.Number < m.boot {
		return nil, 0
	}
	y := m.out(api.KindOpened)
	y.Seq = m.state.Seq
	y.Digests = []api.Digest{m.tree.Root()}
	if x.Number == m.boot {
		y.Number, y.Token = m.boot, api.Token{Transfer: m.attempt, Seq: m.state.Seq, Next: m.got}
		return []api.Msg{y}, 0
	}
	m.boot, m.caught, m.fed = x.Number, m.state.Seq, m.state.Seq
	y.Number = m.boot
	if x.Token.Transfer == m.attempt && x.Token.Seq == m.state.Seq && (m.phase == api.PhaseChunks || m.phase == api.PhaseDeltas) && x.Token.Next >= m.got && x.Token.Next <= len(m.chunks) && !m.fallen {
		m.got, m.sent, m.clock = x.Token.Next, x.Token.Next, 0
		m.phase = api.PhaseChunks
		if m.got == len(m.chunks) {
			m.phase = api.PhaseDeltas
		}
	} else if m.got == 0 && !m.fallen {
		m.clock = 0
	} else {
		return m.giveUp(), 0
	}
	y.Token = api.Token{Transfer: m.attempt, Seq: m.state.Seq, Next: m.got}
	return append([]api.Msg{y}, m.sendOn()...), 0
}

func (m *model) want(x api.Msg) ([]api.Msg, api.Errno) {
	if m.phase != api.PhaseProbe {
		if !slices.Equal(x.Buckets, m.wanted) {
			return nil, errWant
		}
		return nil, 0
	}
	for i, b := range x.Buckets {
		if b < 0 || b >= 1<<(4*m.set.Depth) || i > 0 && b <= x.Buckets[i-1] {
			return nil, errWant
		}
	}
	m.wanted, m.chunks = slices.Clone(x.Buckets), cutting(m.state, m.set.Depth, m.set.Chunk, x.Buckets)
	m.phase, m.clock = api.PhaseChunks, 0
	if len(m.chunks) == 0 {
		m.phase = api.PhaseDeltas
	}
	return m.sendOn(), 0
}

func (m *model) offer(u api.Update) ([]api.Msg, api.Errno) {
	if u.Seq != m.last+1 {
		return nil, errSeq
	}
	if m.phase == api.PhaseAborted {
		return nil, 0
	}
	m.last = u.Seq
	m.kept = append(slices.Clip(m.kept), u)
	if len(m.kept) > m.set.Deltas {
		return m.giveUp(), 0
	}
	return m.sendOn(), 0
}

func (m *model) tick() []api.Msg {
	if m.phase != api.PhaseChunks && m.phase != api.PhaseDeltas || m.sent <= m.got && m.fed <= m.caught {
		return nil
	}
	m.clock++
	if m.clock != m.set.Patience {
		return nil
	}
	m.clock = 0
	var l []api.Msg
	for i := m.got; i <= m.sent-1; i++ {
		l = append(l, m.chunk(i))
	}
	for n := m.caught + 1; n <= m.fed; n++ {
		if x, there := m.update(n); there {
			l = append(l, x)
		}
	}
	return l
}

// pair is a sender, and its model beside it.
type pair struct {
	t *testing.T
	x *sender.Sender
	m *model
}

func begin(t *testing.T, attempt int, s *delta.Store, set api.Settings) *pair {
	t.Helper()
	x, e := sender.New(attempt, s, set)
	if e != 0 || x == nil {
		t.Fatalf("New: %d", e)
	}
	p := &pair{t, x, modelOf(attempt, s, set)}
	p.holds()
	return p
}

// holds holds what a sender tells against its model.
func (p *pair) holds() {
	p.t.Helper()
	got, count := p.x.Got()
	was := []int{p.x.Attempt(), int(p.x.Phase()), p.x.Seq(), p.x.Caught(), p.x.Last(), got, count, p.x.Kept()}
	m := p.m
	if want := []int{m.attempt, int(m.phase), m.state.Seq, m.caught, m.last, m.got, len(m.chunks), len(m.kept)}; !slices.Equal(was, want) {
		p.t.Fatalf("attempt, phase, seq, caught, last, got, chunks, kept: %v, want %v", was, want)
	}
}

func (p *pair) same(what string, l []api.Msg, e api.Errno, want []api.Msg, wrong api.Errno) []api.Msg {
	p.t.Helper()
	if e != wrong || !slices.EqualFunc(l, want, message.Alike) {
		p.t.Fatalf("%s: %s, %d, want %s, %d", what, show(l), e, show(want), wrong)
	}
	p.holds()
	return l
}

func (p *pair) take(m api.Msg) []api.Msg {
	p.t.Helper()
	want, wrong := p.m.take(m)
	l, e := p.x.Take(m)
	return p.same("Take "+show([]api.Msg{m}), l, e, want, wrong)
}

func (p *pair) offer(u api.Update) []api.Msg {
	p.t.Helper()
	want, wrong := p.m.offer(u)
	l, e := p.x.Offer(u)
	return p.same(fmt.Sprintf("Offer %d", u.Seq), l, e, want, wrong)
}

func (p *pair) tick() []api.Msg {
	p.t.Helper()
	want := p.m.tick()
	return p.same("Tick", p.x.Tick(), 0, want, 0)
}

// next offers so many updates, the next ones.
func (p *pair) next(n int) []api.Msg {
	p.t.Helper()
	var l []api.Msg
	for range n {
		l = append(l, p.offer(put(p.m.last+1, "u", "v"))...)
	}
	return l
}

// Messages of a joiner.

func open(attempt, boot int, t api.Token) api.Msg {
	return api.Msg{Kind: api.KindOpen, Attempt: attempt, Number: boot, Token: t}
}

func want(attempt int, buckets ...int) api.Msg {
	return api.Msg{Kind: api.KindWant, Attempt: attempt, Buckets: buckets}
}

func got(attempt, next int) api.Msg {
	return api.Msg{Kind: api.KindGot, Attempt: attempt, Seq: next}
}

func caught(attempt, boot, seq int) api.Msg {
	return api.Msg{Kind: api.KindCaught, Attempt: attempt, Number: boot, Seq: seq}
}

func asks(attempt, level int, nodes ...int) api.Msg {
	return api.Msg{Kind: api.KindProbe, Attempt: attempt, Level: level, Buckets: nodes}
}

func abort(attempt int) api.Msg { return api.Msg{Kind: api.KindAbort, Attempt: attempt} }

// all are the buckets of a depth.
func all(depth int) []int {
	var l []int
	for b := range 1 << (4 * depth) {
		l = append(l, b)
	}
	return l
}

// show tells messages: each one's kind, and what is most of use of it.
func show(l []api.Msg) string {
	var out []string
	for _, m := range l {
		s := fmt.Sprintf("%s(%d)", message.Name(m.Kind), m.Attempt)
		switch m.Kind {
		case api.KindOpen, api.KindOpened:
			s += fmt.Sprintf(" boot %d seq %d %v", m.Number, m.Seq, m.Token)
		case api.KindChunk:
			s += fmt.Sprintf(" %d of %d pieces", m.Chunk.Index, len(m.Chunk.Pieces))
		case api.KindDelta:
			s += fmt.Sprintf(" %d", m.Update.Seq)
		default:
			s += fmt.Sprintf(" %d %d %d %v", m.Number, m.Seq, m.Level, m.Buckets)
		}
		out = append(out, s)
	}
	return "[" + strings.Join(out, "; ") + "]"
}

// pick picks one of some numbers.
func pick(r *rand.Rand, l ...int) int { return l[r.Intn(len(l))] }

// some are some of a depth's buckets, rising.
func some(r *rand.Rand, depth, n int) []int {
	l := r.Perm(1 << (4 * depth))
	l = l[:min(n, len(l))]
	slices.Sort(l)
	return l
}

package sender_test

import (
	"math/rand"
	"slices"
	"testing"

	"hawser/api"
	"hawser/delta"
	"hawser/merkle"
	"hawser/probe"
	"hawser/sender"
	"hawser/span"
	"hawser/table"
)

// joiner is one to whom a store is brought, plainly: each chunk is kept for good as soon as it comes in its turn.
type joiner struct {
	t     *testing.T
	depth int
	boot  int
	// What lasts.
	rows   *table.Table
	token  api.Token
	wanted []int
	all    bool
	// What a crash takes.
	opened bool
	root   api.Digest
	prober *probe.Prober
	store  *delta.Store
	held   map[int]api.Update
	ended  bool
}

func (j *joiner) crash() {
	j.boot++
	j.opened, j.prober, j.store, j.held = false, nil, nil, map[int]api.Update{}
	if j.token.Next == 0 { // no chunk was kept: nothing was written down
		j.token, j.wanted, j.all = api.Token{}, nil, false
	}
}

// begin begins another attempt, with what has lasted.
func (j *joiner) begin() {
	j.token, j.wanted, j.all, j.ended = api.Token{}, nil, false, false
	j.crash()
}

// asks is what it says again and again.
func (j *joiner) asks(attempt int) []api.Msg {
	switch {
	case !j.opened:
		return []api.Msg{open(attempt, j.boot, j.token)}
	case j.prober != nil:
		level, nodes, _ := j.prober.Ask()
		return []api.Msg{asks(attempt, level, nodes...)}
	case j.store != nil:
		l := []api.Msg{caught(attempt, j.boot, j.store.Seq())}
		if j.token.Next == 0 {
			l = append(l, want(attempt, j.wanted...))
		}
		return l
	case j.token.Next == 0:
		return []api.Msg{want(attempt, j.wanted...)}
	default:
		return []api.Msg{got(attempt, j.token.Next)}
	}
}

func (j *joiner) take(m api.Msg) []api.Msg {
	switch m.Kind {
	case api.KindAbort:
		j.ended = true
	case api.KindOpened:
		return j.open(m)
	case api.KindDigests:
		if j.prober == nil || j.prober.Take(m.Level, m.Buckets, m.Digests) != 0 {
			return nil
		}
		if j.prober.Over() {
			j.wanted, j.prober = j.prober.Buckets(), nil
			j.all = len(j.wanted) == 0
			j.over()
		}
		return j.asks(m.Attempt)
	case api.KindChunk:
		if !j.opened || j.prober != nil {
			return nil
		}
		if m.Chunk.Index == j.token.Next && !j.all {
			j.lay(m.Chunk)
			j.token.Next++
			j.all = m.Chunk.Last
			j.over()
		}
		return []api.Msg{got(m.Attempt, j.token.Next)}
	case api.KindDelta:
		if j.opened {
			j.held[m.Update.Seq] = m.Update
		}
		return j.apply(m.Attempt)
	}
	return nil
}

func (j *joiner) open(m api.Msg) []api.Msg {
	if j.opened || m.Number != j.boot {
		return nil
	}
	j.root = m.Digests[0]
	switch {
	case j.token != (api.Token{}) && m.Token == j.token:
		j.opened = true
		j.over()
	case m.Token.Next == 0:
		j.opened, j.token, j.wanted, j.all = true, m.Token, nil, false
		tree, _ := merkle.Of(j.depth, j.rows)
		j.prober = probe.New(tree)
	default:
		j.ended = true
		return []api.Msg{abort(m.Attempt)}
	}
	return j.asks(m.Attempt)
}

// lay lays a chunk into the rows: what was in a bucket goes as its first piece comes.
func (j *joiner) lay(c api.Chunk) {
	for _, p := range c.Pieces {
		r, _ := span.Of(j.depth, p.Bucket)
		if !p.First {
			r.From = p.Rows[0].Key
		}
		if e := j.rows.Replace(r, p.Rows...); e != 0 {
			j.t.Fatalf("a piece of bucket %d: %d", p.Bucket, e)
		}
	}
}

// over goes over to a store, when all chunks are there: its root must be the one that was told.
func (j *joiner) over() {
	if !j.all || j.store != nil {
		return
	}
	tree, _ := merkle.Of(j.depth, j.rows)
	if tree.Root() != j.root {
		j.t.Fatal("all chunks are there, and the root is another one")
	}
	j.store = load(api.State{Seq: j.token.Seq, Rows: slices.Collect(j.rows.Rows(api.Range{}))})
}

func (j *joiner) apply(attempt int) []api.Msg {
	if j.store == nil {
		return nil
	}
	for {
		u, there := j.held[j.store.Seq()+1]
		if !there {
			return []api.Msg{caught(attempt, j.boot, j.store.Seq())}
		}
		if _, e := j.store.Apply(u); e != 0 {
			j.t.Fatalf("update %d: %d", u.Seq, e)
		}
		delete(j.held, u.Seq)
	}
}

// way is what is under way between a tail and a joiner, and what a wicked driver does with it.
type way struct {
	r        *rand.Rand
	bad      bool
	up, down []api.Msg
}

// pull takes a message out: any one, if the driver is bad, who may double it, too; false: there is none.
func (w *way) pull(l *[]api.Msg) (api.Msg, bool) {
	for len(*l) > 0 {
		i := 0
		if w.bad {
			i = w.r.Intn(len(*l))
		}
		m := (*l)[i]
		if !w.bad || w.r.Intn(8) > 0 {
			*l = slices.Delete(*l, i, i+1)
		}
		if w.bad && w.r.Intn(6) == 0 {
			continue // it is lost
		}
		return m, true
	}
	return api.Msg{}, false
}

// run is a transfer, as a tail and a joiner have it.
type run struct {
	*way
	t       *testing.T
	set     api.Settings
	tail    *delta.Store
	attempt int
	p       *pair
	w       *watch
	j       *joiner
	again   int // how many attempts were given up
}

func (x *run) begin() {
	x.attempt++
	x.p = begin(x.t, x.attempt, x.tail, x.set)
	x.w = &watch{t: x.t, set: x.set}
	x.up, x.down = nil, nil
	x.j.begin()
}

func (x *run) out(l []api.Msg) {
	x.t.Helper()
	x.w.got = max(x.w.got, x.p.m.got)
	x.w.out(x.p, l)
	mayBe(x.t, l)
	x.down = append(x.down, l...)
}

// update is a client's, at the tail.
func (x *run) update() {
	n := x.tail.Seq() + 1
	u := api.Update{Seq: n, Client: 1 + x.r.Intn(3), Number: n, Op: api.Op{Kind: api.OpKind(1 + x.r.Intn(2)), Key: string([]byte{byte(1 + x.r.Intn(255))})}}
	if u.Op.Kind == api.OpPut {
		u.Op.Value = long(x.r.Intn(60))
	}
	if _, e := x.tail.Apply(u); e != 0 {
		x.t.Fatal(e)
	}
	x.out(x.p.offer(u))
}

// step does one thing of all that may happen. A driver that is not bad lets the clock go on only when nothing is under way.
func (x *run) step() {
	n := x.r.Intn(18)
	if x.bad {
		n = x.r.Intn(20)
	} else if len(x.up)+len(x.down) > 0 {
		n = x.r.Intn(16)
	}
	switch {
	case n < 8:
		if m, there := x.pull(&x.up); there {
			x.out(x.p.take(m))
		}
	case n < 16:
		if m, there := x.pull(&x.down); there {
			x.up = append(x.up, x.j.take(m)...)
		}
	case n < 18:
		x.out(x.p.tick())
		x.up = append(x.up, x.j.asks(x.attempt)...)
	case x.bad && x.r.Intn(3) == 0:
		x.update()
	case x.bad && x.r.Intn(25) == 0:
		x.j.crash()
	}
	if x.j.ended {
		x.again++
		x.begin()
	}
}

func (x *run) done() bool {
	return x.j.store != nil && x.j.store.Seq() == x.tail.Seq() && x.p.x.Caught() == x.tail.Seq()
}

// P17.8 to P17.10: whatever is lost, doubled, put out of order, or crashes, a joiner comes to have just what the tail has, as soon as that ends.
func TestTransfers(t *testing.T) {
	again, resumed := 0, 0
	for seed := range 250 {
		r := rand.New(rand.NewSource(int64(seed)))
		set := settings(r)
		set.Deltas = max(set.Deltas, 2)
		old := rows(r.Intn(60), 40)
		stale, _ := table.From(old...)
		tail := load(api.State{Seq: 5, Rows: old})
		x := &run{way: &way{r: r, bad: true}, t: t, set: set, tail: tail, j: &joiner{t: t, depth: set.Depth, rows: stale}}
		if r.Intn(3) == 0 {
			x.j.rows = table.New()
		}
		x.begin()
		for range r.Intn(40) {
			x.update()
			if x.p.m.phase == api.PhaseAborted {
				x.begin()
			}
		}
		for range 300 + r.Intn(300) {
			x.step()
			if x.j.boot > 2 && x.p.m.got > 0 && x.p.m.boot > 1 {
				resumed++
			}
		}
		x.bad = false
		for n := 0; !x.done(); n++ {
			if x.step(); n > 20000 {
				t.Fatalf("seed %d: it does not end: phase %d, caught %d of %d", seed, x.p.x.Phase(), x.p.x.Caught(), x.tail.Seq())
			}
		}
		got, want := x.j.store.State(), x.tail.State()
		if got.Seq != want.Seq || !slices.Equal(got.Rows, want.Rows) {
			t.Fatalf("seed %d: %d rows, number %d, want %d, %d", seed, len(got.Rows), got.Seq, len(want.Rows), want.Seq)
		}
		again += x.again
	}
	if again < 20 || resumed < 100 {
		t.Errorf("given up %d times, with a later life %d steps alone", again, resumed)
	}
}

// P17.9: each update goes out once at least, in order, if all that goes out is caught.
func TestEachUpdateGoesOut(t *testing.T) {
	for window := 1; window <= 4; window++ {
		set := small()
		set.Window, set.Deltas = window, 30
		p := begin(t, 7, load(api.State{Seq: 5, Rows: rows(100, 40)}), set)
		p.take(open(7, 1, api.Token{}))
		last := 5
		note := func(l []api.Msg) {
			for _, m := range l {
				if m.Kind == api.KindDelta {
					if last++; m.Update.Seq != last {
						t.Fatalf("window %d: update %d behind %d", window, m.Update.Seq, last-1)
					}
				}
			}
		}
		note(p.next(3))
		note(p.take(want(7, 3, 4)))
		for n := range 60 {
			note(p.next(n % 3))
			note(p.take(got(7, p.m.sent)))
			note(p.take(caught(7, 1, last)))
		}
		for p.m.fed < p.m.last {
			note(p.take(caught(7, 1, last)))
		}
		if last != p.x.Last() || last < 60 {
			t.Errorf("window %d: %d of %d", window, last, p.x.Last())
		}
	}
}

// P17.10: the store stays as it was, whatever its senders do, and lives on without them.
func TestStoreStays(t *testing.T) {
	s := load(api.State{Seq: 5, Rows: rows(100, 40)})
	before := s.State()
	for seed := range 20 {
		r := rand.New(rand.NewSource(int64(seed)))
		p := begin(t, 7, s, settings(r))
		for range 100 {
			play(p, r)
		}
		if now := s.State(); now.Seq != before.Seq || !slices.Equal(now.Rows, before.Rows) {
			t.Fatal("the store has changed")
		}
	}
	if _, e := s.Apply(put(6, "a", "b")); e != 0 {
		t.Error(e)
	}
	if x, e := sender.New(8, s, small()); e != 0 || x.Seq() != 6 {
		t.Error("a sender of the store as it is now")
	}
}

package sender_test

import (
	"math"
	"slices"
	"testing"

	"hawser/api"
	"hawser/delta"
	"hawser/merkle"
	"hawser/message"
	"hawser/sender"
)

func TestNumbers(t *testing.T) {
	if api.ErrSenderMsg != 170 || api.ErrSenderSeq != 172 || api.ErrSenderWant != 173 || api.ErrArg != 1 || api.ErrMade != 2 {
		t.Error("errors")
	}
}

// kinds are the messages' kinds, one behind the other.
func kinds(l []api.Msg) []int {
	var k []int
	for _, m := range l {
		k = append(k, int(m.Kind))
	}
	return k
}

// goes holds which messages go out: their kinds, and what they are about (the Index of a chunk, the number of an update, the Next of a token).
func goes(t *testing.T, what string, l []api.Msg, want ...[2]int) {
	t.Helper()
	var is [][2]int
	for _, m := range l {
		n := 0
		switch m.Kind {
		case api.KindChunk:
			n = m.Chunk.Index
		case api.KindDelta:
			n = m.Update.Seq
		case api.KindOpened:
			n = m.Token.Next
		}
		is = append(is, [2]int{int(m.Kind), n})
	}
	if !slices.Equal(is, want) {
		t.Fatalf("%s: %v, want %v", what, is, want)
	}
}

func opened(next int) [2]int { return [2]int{16, next} }
func chunk(index int) [2]int { return [2]int{20, index} }
func later(seq int) [2]int   { return [2]int{22, seq} }

var given = [2]int{24, 0} // up

// The chapter's examples, 2 to 5.
func TestExamples(t *testing.T) {
	p := begin(t, 1, two(), small())
	l := p.take(open(1, 1, api.Token{}))
	if goes(t, "open", l, opened(0)); l[0].Seq != 2 || l[0].Token != (api.Token{Transfer: 1, Seq: 2}) || l[0].Number != 1 {
		t.Errorf("opened: %s", show(l))
	}
	l = p.take(want(1, 6))
	if goes(t, "want", l, chunk(0)); !l[0].Chunk.Last || len(l[0].Chunk.Pieces) != 1 || len(l[0].Chunk.Pieces[0].Rows) != 2 {
		t.Errorf("want: %s", show(l))
	}
	if l, e := p.x.Take(got(1, 5)); e != 170 || len(l) != 0 {
		t.Errorf("got 5: %s, %d", show(l), e)
	}
	if l, e := p.x.Take(want(1, 7)); e != 173 || len(l) != 0 {
		t.Errorf("want 7: %s, %d", show(l), e)
	}
	goes(t, "got", p.take(got(1, 1)))
	if p.x.Phase() != api.PhaseDeltas {
		t.Error("behind the last chunk")
	}
	goes(t, "offer", p.offer(put(3, "c", "z")), later(3))
	goes(t, "open again", p.take(open(1, 2, api.Token{Transfer: 1, Seq: 2, Next: 1})), opened(1), later(3))
	goes(t, "caught", p.take(caught(1, 2, 3)))
	goes(t, "open behind what was let fall", p.take(open(1, 3, api.Token{Transfer: 1, Seq: 2, Next: 1})), given)
	if p.x.Phase() != api.PhaseAborted {
		t.Error("given up")
	}

	p = begin(t, 1, two(), small())
	goes(t, "offer ahead of want", p.offer(put(3, "c", "z")))
	goes(t, "want", p.take(want(1, 6)), chunk(0), later(3))
	p = begin(t, 1, two(), small())
	p.take(want(1, 6))
	goes(t, "the first one", p.offer(put(3, "c", "z")), later(3))
	goes(t, "the second one", p.offer(put(4, "c", "z")), later(4))
	goes(t, "the third one ahead of got", p.offer(put(5, "c", "z")), given)
}

// P17.2
func TestNew(t *testing.T) {
	good := two()
	sets := map[string]api.Settings{"zero": {}}
	for name, change := range map[string]func(*api.Settings){
		"depth 0": func(s *api.Settings) { s.Depth = 0 }, "depth 4": func(s *api.Settings) { s.Depth = 4 },
		"window 0": func(s *api.Settings) { s.Window = 0 }, "window 65": func(s *api.Settings) { s.Window = 65 },
		"patience 0": func(s *api.Settings) { s.Patience = 0 }, "patience 101": func(s *api.Settings) { s.Patience = 101 },
		"chunk 63": func(s *api.Settings) { s.Chunk = 63 }, "chunk 262145": func(s *api.Settings) { s.Chunk = 262145 },
		"deltas 0": func(s *api.Settings) { s.Deltas = 0 }, "deltas 4097": func(s *api.Settings) { s.Deltas = 4097 },
	} {
		s := small()
		change(&s)
		sets[name] = s
	}
	stores := map[string]*delta.Store{"nil": nil, "zero": {}, "new": new(delta.Store)}
	for _, attempt := range []int{math.MinInt, -1, 0, top + 1, math.MaxInt} {
		if x, e := sender.New(attempt, nil, api.Settings{}); x != nil || e != errArg {
			t.Errorf("attempt %d, nothing that may be: %v, %d", attempt, x, e)
		}
		if x, e := sender.New(attempt, good, small()); x != nil || e != errArg {
			t.Errorf("attempt %d: %v, %d", attempt, x, e)
		}
	}
	for name, s := range stores {
		if x, e := sender.New(1, s, api.Settings{}); x != nil || e != errMade {
			t.Errorf("a %s store, and no settings: %v, %d", name, x, e)
		}
		if x, e := sender.New(1, s, small()); x != nil || e != errMade {
			t.Errorf("a %s store: %v, %d", name, x, e)
		}
	}
	for name, set := range sets {
		if x, e := sender.New(1, good, set); x != nil || e != errArg {
			t.Errorf("settings, %s: %v, %d", name, x, e)
		}
	}
	for _, attempt := range []int{1, 2, top - 1, top} {
		for _, s := range []*delta.Store{delta.New(), good, load(api.State{Seq: top}), load(api.State{Seq: 5, Rows: rows(100, 30)})} {
			for depth := 1; depth <= 3; depth++ {
				set := small()
				set.Depth = depth
				begin(t, attempt, s, set)
			}
		}
	}
	for _, set := range []api.Settings{{Depth: 1, Window: 1, Patience: 1, Chunk: 64, Deltas: 1}, {Depth: 3, Window: 64, Patience: 100, Chunk: 262144, Deltas: 4096}} {
		begin(t, 1, good, set)
	}
}

// P17.3: what is not for it.
func TestTakeRefuses(t *testing.T) {
	for name, p := range phases(t) {
		for kind := api.Kind(-2); kind <= 31; kind++ {
			for _, attempt := range []int{math.MinInt, -7, 0, 6, 7, 8, math.MaxInt} {
				takes := slices.Contains([]api.Kind{15, 17, 19, 21, 23, 24}, kind)
				if takes && attempt == 7 {
					continue
				}
				m := api.Msg{Kind: kind, Attempt: attempt, Number: 1, Update: put(p.x.Last()+1, "a", "b")}
				if l, e := p.x.Take(m); e != errMsg || len(l) != 0 {
					t.Errorf("%s: kind %d, attempt %d: %s, %d", name, kind, attempt, show(l), e)
				}
				p.take(m)
			}
		}
	}
}

// names are those of the senders that at makes.
func names() []string {
	return []string{"new", "opened", "chunks", "chunks, some got", "chunks and updates", "deltas", "deltas, some fell", "no chunks", "given up", "given up later"}
}

// at is a sender of attempt 7, in one of the phases.
func at(t *testing.T, name string) *pair {
	p := begin(t, 7, load(api.State{Seq: 5, Rows: rows(100, 40)}), api.Settings{Depth: 1, Window: 2, Patience: 3, Chunk: 64, Deltas: 5})
	if name != "new" && name != "given up" {
		p.take(open(7, 3, api.Token{}))
	}
	switch name {
	case "chunks", "chunks, some got", "chunks and updates", "deltas", "deltas, some fell", "given up later":
		p.take(want(7, 3, 4, 5))
	case "no chunks":
		p.take(want(7))
	}
	switch name {
	case "chunks, some got":
		p.take(got(7, 2))
	case "chunks and updates":
		p.next(2)
	case "deltas", "deltas, some fell", "given up later":
		p.next(3)
		for p.x.Phase() == api.PhaseChunks {
			p.take(got(7, p.m.sent))
		}
	}
	switch name {
	case "deltas, some fell":
		p.take(caught(7, 3, 6))
	case "given up", "given up later":
		p.take(abort(7))
	}
	return p
}

// phases are all of them.
func phases(t *testing.T) map[string]*pair {
	l := map[string]*pair{}
	for _, name := range names() {
		l[name] = at(t, name)
	}
	return l
}

// Of messages that come in From, To, Epoch, and all that a kind does not name, are not looked at.
func TestTakeLooksAtNothingElse(t *testing.T) {
	for _, name := range []string{"new", "opened", "chunks", "chunks, some got", "chunks and updates", "deltas", "deltas, some fell", "no chunks", "given up"} {
		for _, m := range []api.Msg{open(7, 9, api.Token{}), asks(7, 1, 3, 5), want(7, 3, 4, 5), got(7, 1), got(7, 3), caught(7, 3, 7), abort(7)} {
			plain, full := at(t, name), at(t, name)
			x := m
			x.From, x.To, x.Epoch, x.Client, x.Key, x.Found = -4, 900, -1, 77, "\x00", true
			x.Op, x.Update, x.Result, x.Row = api.Op{Kind: 9}, put(99, "", ""), api.Result{Code: 12}, api.Row{Version: -1}
			x.Config, x.Chunk = api.Config{Epoch: -1, Chain: []int{0}}, api.Chunk{Index: -1}
			if m.Kind != api.KindProbe {
				x.Level, x.Digests = -9, make([]api.Digest, 3)
			}
			if m.Kind != api.KindProbe && m.Kind != api.KindWant {
				x.Buckets = []int{-1, -1}
			}
			if m.Kind != api.KindOpen {
				x.Token = api.Token{Transfer: 7, Seq: 5, Next: 1}
			}
			if m.Kind != api.KindOpen && m.Kind != api.KindCaught {
				x.Number = -3
			}
			if m.Kind != api.KindGot && m.Kind != api.KindCaught {
				x.Seq = -8
			}
			l, k := plain.take(m), full.take(x)
			if !slices.EqualFunc(l, k, message.Alike) {
				t.Errorf("%s: %s, and %s", name, show(l), show(k))
			}
		}
	}
}

// Messages that go out may be, as soon as their ends are put in, and have no ends ahead of that.
func mayBe(t *testing.T, l []api.Msg) {
	t.Helper()
	for _, m := range l {
		if m.From != 0 || m.To != 0 || m.Epoch != 0 {
			t.Fatalf("ends: %s", show(l))
		}
		m.From, m.To = 1, 2
		if e := message.Check(m); e != 0 {
			t.Fatalf("%s: %d", show([]api.Msg{m}), e)
		}
	}
}

// P17.3: Open of each life.
func TestOpen(t *testing.T) {
	for name, p := range phases(t) {
		for _, boot := range []int{0, -1, math.MinInt} {
			p.take(open(7, boot, api.Token{}))
		}
		if name == "new" || name == "given up" || name == "given up later" {
			continue
		}
		for _, boot := range []int{1, 2} {
			goes(t, name+": an earlier life", p.take(open(7, boot, api.Token{Transfer: 7, Seq: 5, Next: 99})))
		}
		for range 3 {
			goes(t, name+": the same life", p.take(open(7, 3, api.Token{Transfer: 7, Seq: 5, Next: 1})), opened(p.m.got))
			mayBe(t, p.take(open(7, 3, api.Token{})))
		}
	}
	p := at(t, "new")
	goes(t, "the greatest life", p.take(open(7, math.MaxInt, api.Token{})), opened(0))
	goes(t, "an earlier one", p.take(open(7, math.MaxInt-1, api.Token{})))
	goes(t, "the same", p.take(open(7, math.MaxInt, api.Token{})), opened(0))
}

// P17.3: Open of a new life, with any token.
func TestOpenAgain(t *testing.T) {
	for _, name := range names() {
		for next := -2; next <= 25; next++ {
			for _, c := range []api.Token{{Transfer: 7, Seq: 5, Next: next}, {Transfer: 6, Seq: 5, Next: next}, {Transfer: 7, Seq: 4, Next: next}, {Next: next}, {Transfer: 7, Next: next}} {
				p := at(t, name)
				l := p.take(open(7, 4, c))
				mayBe(t, l)
				if len(l) > 0 && l[0].Kind == api.KindOpened && (l[0].Number != 4 || l[0].Token.Next != p.m.got) {
					t.Fatalf("%s, %v: %s", name, c, show(l))
				}
				p.tick()
				p.take(open(7, 3, c))
				p.take(open(7, 4, c))
				p.next(1)
				p.take(caught(7, 3, 7))
				p.take(caught(7, 4, 6))
				p.take(got(7, p.m.sent))
				for range 4 {
					mayBe(t, p.tick())
				}
				p.take(open(7, 5, c))
			}
		}
	}
}

// The ways in which a new life goes on, by themselves.
func TestOpenWays(t *testing.T) {
	token := func(next int) api.Token { return api.Token{Transfer: 7, Seq: 5, Next: next} }
	p := at(t, "chunks, some got")
	n := p.m.sent
	if n != 4 {
		t.Fatalf("sent: %d", n)
	}
	goes(t, "from what was got", p.take(open(7, 4, token(2))), opened(2), chunk(2), chunk(3))
	goes(t, "ahead of it", p.take(open(7, 5, token(3))), opened(3), chunk(3), chunk(4))
	goes(t, "less than was got", p.take(open(7, 6, token(2))), given)
	p = at(t, "chunks, some got")
	goes(t, "more than was sent", p.take(open(7, 4, token(6))), opened(6), chunk(6), chunk(7))
	p = at(t, "chunks, some got")
	count := len(p.m.chunks)
	goes(t, "all", p.take(open(7, 4, token(count))), opened(count))
	if p.x.Phase() != api.PhaseDeltas {
		t.Error("all chunks are there")
	}
	p = at(t, "chunks, some got")
	goes(t, "more than all", p.take(open(7, 4, token(count+1))), given)
	p = at(t, "chunks, some got")
	goes(t, "no token", p.take(open(7, 4, api.Token{})), given)

	p = at(t, "chunks and updates")
	goes(t, "nothing got, no token", p.take(open(7, 4, api.Token{})), opened(0), later(6), later(7))
	goes(t, "nothing got, a token", p.take(open(7, 5, token(0))), opened(0), chunk(0), chunk(1), later(6), later(7))
	goes(t, "more than all", p.take(open(7, 6, token(count+1))), opened(0), later(6), later(7))
	p = at(t, "opened")
	p.next(1)
	goes(t, "digests are compared still", p.take(open(7, 4, token(0))), opened(0))
	if p.x.Phase() != api.PhaseProbe {
		t.Error("the comparison is over")
	}
	p = at(t, "no chunks")
	p.next(3)
	goes(t, "no chunks, a token", p.take(open(7, 4, token(0))), opened(0), later(6), later(7))
	goes(t, "no chunks, no token", p.take(open(7, 5, api.Token{})), opened(0), later(6), later(7))
	goes(t, "the same life", p.take(open(7, 5, api.Token{})), opened(0))
	p.take(caught(7, 5, 6))
	goes(t, "an update fell", p.take(open(7, 6, token(0))), given)
	if p.x.Caught() != 5 || p.x.Last() != 8 {
		t.Errorf("given up: %d, %d", p.x.Caught(), p.x.Last())
	}
}

// A new life sets the clock to 0; the same one lets it be.
func TestOpenClock(t *testing.T) {
	for _, boot := range []int{3, 4} {
		for _, token := range []api.Token{{}, {Transfer: 7, Seq: 5}} {
			p := at(t, "chunks")
			p.tick()
			p.tick()
			p.take(open(7, boot, token))
			if l := p.tick(); (len(l) > 0) != (boot == 3) {
				t.Errorf("boot %d: %s", boot, show(l))
			}
			p.tick()
			p.tick()
		}
	}
}

// What Opened says: the number, the token, and the root of the state as it was.
func TestOpened(t *testing.T) {
	for depth := 1; depth <= 3; depth++ {
		for _, s := range []*delta.Store{delta.New(), two(), load(api.State{Seq: top - 1, Rows: rows(30, 9)})} {
			set := small()
			set.Depth = depth
			p := begin(t, top, s, set)
			tree, _ := merkle.Of(depth, s.Table())
			root, seq := tree.Root(), s.Seq()
			s.Apply(api.Update{Seq: seq + 1, Client: 9, Number: 1, Op: api.Op{Kind: 1, Key: "new", Value: "new"}})
			l := p.take(open(top, 1, api.Token{}))
			goes(t, "open", l, opened(0))
			mayBe(t, l)
			if l[0].Attempt != top || l[0].Seq != seq || l[0].Token != (api.Token{Transfer: top, Seq: seq}) || len(l[0].Digests) != 1 || l[0].Digests[0] != root {
				t.Errorf("depth %d: %s", depth, show(l))
			}
		}
	}
}

// P17.3: Probe, in each phase.
func TestProbe(t *testing.T) {
	for name, p := range phases(t) {
		for level := -1; level <= 3; level++ {
			for _, nodes := range [][]int{{}, {0}, {3, 5}, all(1), {0, 16}, {16}, {-1}, {5, 3}, {3, 3}, all(2)[:64], all(2)[:65], {math.MinInt}, {math.MaxInt}} {
				l := p.take(asks(7, level, nodes...))
				mayBe(t, l)
				fits := level == 0 && slices.Equal(nodes, []int{0}) || level == 1 && (len(nodes) == 1 && nodes[0] == 0 || slices.Equal(nodes, []int{3, 5}) || len(nodes) == 16)
				if up := name != "given up" && name != "given up later"; up && slices.Equal(kinds(l), []int{18}) != fits || !up && len(l) != 1 {
					t.Errorf("%s: %d, %v: %s", name, level, nodes, show(l))
				}
			}
		}
		p.take(asks(7, math.MinInt, 0))
		p.take(asks(7, math.MaxInt, 0))
	}
	set := small()
	set.Depth = 3
	p := begin(t, 7, load(api.State{Seq: 5, Rows: rows(300, 30)}), set)
	for _, nodes := range [][]int{all(3)[:64], all(3)[4032:], {4095}, {1, 100, 1000}, {4096}, all(3)[:65]} {
		mayBe(t, p.take(asks(7, 3, nodes...)))
		mayBe(t, p.take(asks(7, 2, nodes...)))
	}
}

// P17.3: Want.
func TestWant(t *testing.T) {
	lists := [][]int{{}, {0}, {15}, {16}, {-1}, {3, 4, 5}, {3, 4}, {4, 3}, {3, 3}, {0, 16}, all(1), all(2), {math.MinInt}, {math.MaxInt}, {4096}}
	for _, first := range lists {
		for _, name := range []string{"new", "opened"} {
			p := at(t, name)
			p.next(3)
			l, e := p.x.Take(want(7, first...))
			if fits := slices.Contains([]int{0, 15, 3}, append(slices.Clone(first), 0)[0]) && !slices.Contains(first, 16) && !slices.Equal(first, []int{3, 3}); fits != (e == 0) || !fits && (e != errWant || len(l) != 0) {
				t.Fatalf("want %v: %s, %d", first, show(l), e)
			}
			q := at(t, name)
			q.next(3)
			mayBe(t, q.take(want(7, first...)))
			for _, again := range lists {
				q.take(want(7, again...))
			}
			for _, again := range lists {
				q.take(want(7, again...))
			}
		}
	}
	for name, p := range phases(t) {
		for range 2 {
			p.take(want(7, 3, 4, 5))
			p.take(want(7))
			p.take(want(7, 3, 4))
			p.take(want(7, 3, 4, 5, 6))
		}
		if name == "chunks" && p.m.sent != 2 {
			t.Error("a question that is asked again has sent something")
		}
	}
}

// Want sends as many chunks, and as many updates, as the window has room for.
func TestWantWindow(t *testing.T) {
	for window := 1; window <= 12; window++ {
		for updates := range 8 {
			s := load(api.State{Seq: 5, Rows: rows(100, 40)})
			p := begin(t, 7, s, api.Settings{Depth: 1, Window: window, Patience: 3, Chunk: 64, Deltas: 9})
			if l := p.next(updates); len(l) != 0 {
				t.Fatal("an update ahead of the chunks")
			}
			l := p.take(want(7, 3, 4))
			count := len(p.m.chunks)
			if n, m := min(window, count), min(window, updates); len(l) != n+m || !slices.Equal(kinds(l), append(slices.Repeat([]int{20}, n), slices.Repeat([]int{22}, m)...)) {
				t.Fatalf("window %d, %d chunks, %d updates: %s", window, count, updates, show(l))
			}
		}
	}
}

// A state that is too large for an image cannot be cut.
func TestWantTooMuch(t *testing.T) {
	s := load(heavy())
	x, e := sender.New(1, s, small())
	if e != 0 {
		t.Fatal(e)
	}
	for _, buckets := range [][]int{{}, {6}} {
		if l, e := x.Take(want(1, buckets...)); e != errWant || len(l) != 0 || x.Phase() != api.PhaseProbe {
			t.Errorf("%v: %s, %d", buckets, show(l), e)
		}
	}
	if l, e := x.Take(open(1, 1, api.Token{})); e != 0 || len(l) != 1 || l[0].Kind != api.KindOpened {
		t.Errorf("open: %s, %d", show(l), e)
	}
}

// P17.3: Got.
func TestGot(t *testing.T) {
	for _, p := range phases(t) {
		for _, seq := range []int{math.MinInt, -1, 0, p.m.got - 1, p.m.got, p.m.sent + 1, p.m.sent + 100, math.MaxInt} {
			mayBe(t, p.take(got(7, seq)))
		}
	}
	for window := 1; window <= 5; window++ {
		for step := 1; step <= window; step++ {
			s := load(api.State{Seq: 5, Rows: rows(100, 40)})
			p := begin(t, 7, s, api.Settings{Depth: 1, Window: window, Patience: 3, Chunk: 64, Deltas: 9})
			l := p.take(want(7, 2, 3, 4))
			sent := len(l)
			for p.x.Phase() == api.PhaseChunks {
				p.take(got(7, p.m.sent+1))
				l = p.take(got(7, min(p.m.got+step, p.m.sent)))
				for _, m := range l {
					if m.Chunk.Index != sent {
						t.Fatalf("window %d: chunk %d behind %d", window, m.Chunk.Index, sent)
					}
					sent++
				}
				p.take(got(7, p.m.got))
				p.take(got(7, p.m.got-1))
				p.take(got(7, 0))
			}
			if n, count := p.x.Got(); n != sent || count != sent || sent < 10 {
				t.Fatalf("window %d: got %d of %d, sent %d", window, n, count, sent)
			}
			goes(t, "behind the end", p.take(got(7, sent)))
		}
	}
}

// P17.3: Caught.
func TestCaught(t *testing.T) {
	for _, p := range phases(t) {
		for boot := -1; boot <= 5; boot++ {
			for _, seq := range []int{math.MinInt, -1, 0, p.m.caught - 1, p.m.caught, p.m.fed + 1, p.m.last, p.m.last + 1, math.MaxInt} {
				mayBe(t, p.take(caught(7, boot, seq)))
			}
		}
	}
	p := begin(t, 7, load(api.State{Seq: 5, Rows: rows(100, 40)}), api.Settings{Depth: 1, Window: 3, Patience: 3, Chunk: 64, Deltas: 20})
	p.take(open(7, 3, api.Token{}))
	p.take(want(7, 3))
	goes(t, "three under way", p.next(9), later(6), later(7), later(8))
	goes(t, "another life", p.take(caught(7, 2, 8)))
	goes(t, "another life", p.take(caught(7, 4, 99)))
	goes(t, "one caught", p.take(caught(7, 3, 6)), later(9))
	goes(t, "again", p.take(caught(7, 3, 6)))
	goes(t, "all caught", p.take(caught(7, 3, 9)), later(10), later(11), later(12))
	if p.x.Kept() != 9 {
		t.Errorf("kept while chunks are missing: %d", p.x.Kept())
	}
	if l, e := p.x.Take(caught(7, 3, 13)); e != errMsg || len(l) != 0 {
		t.Errorf("what was not sent: %s, %d", show(l), e)
	}
	for p.x.Phase() == api.PhaseChunks {
		p.take(got(7, p.m.sent))
	}
	if p.x.Kept() != 5 {
		t.Errorf("kept behind the chunks: %d", p.x.Kept())
	}
	goes(t, "all", p.take(caught(7, 3, 12)), later(13), later(14))
	goes(t, "all", p.take(caught(7, 3, 14)))
	if p.x.Kept() != 0 || p.x.Caught() != 14 || p.x.Last() != 14 {
		t.Errorf("behind all: %d, %d, %d", p.x.Kept(), p.x.Caught(), p.x.Last())
	}
	goes(t, "the next one", p.next(1), later(15))
}

// Ahead of the first Open the boot is 0: by that number updates may be caught.
func TestCaughtWithoutALife(t *testing.T) {
	p := begin(t, 7, two(), small())
	p.take(want(7))
	p.next(1)
	p.take(caught(7, 1, 3))
	p.take(caught(7, 0, 3))
	if p.x.Caught() != 3 || p.x.Kept() != 0 {
		t.Errorf("%d, %d", p.x.Caught(), p.x.Kept())
	}
	goes(t, "open", p.take(open(7, 1, api.Token{})), given)
}

// P17.3: Abort, and what is told behind it.
func TestAbort(t *testing.T) {
	for _, name := range names() {
		p := at(t, name)
		caughtThen, last := p.x.Caught(), p.x.Last()
		goes(t, name, p.take(abort(7)))
		goes(t, name, p.take(abort(7)))
		for _, m := range []api.Msg{open(7, 9, api.Token{}), open(7, 0, api.Token{}), asks(7, 0, 0), asks(7, 9), want(7, 6), want(7, 6, 6), got(7, 1), got(7, -1), caught(7, 3, 6), caught(7, 3, 99)} {
			goes(t, name, p.take(m), given)
		}
		for range 10 {
			goes(t, name, p.tick())
		}
		a, b := p.x.Got()
		if p.x.Attempt() != 7 || p.x.Phase() != api.PhaseAborted || p.x.Seq() != 5 || p.x.Caught() != caughtThen || p.x.Last() != last || a != 0 || b != 0 || p.x.Kept() != 0 {
			t.Errorf("%s: told behind the end", name)
		}
	}
}

// P17.4
func TestOffer(t *testing.T) {
	for name, p := range phases(t) {
		for _, seq := range []int{math.MinInt, -1, 0, p.m.last - 1, p.m.last, p.m.last + 2, top, top + 1, math.MaxInt} {
			u := put(1, "a", "b")
			u.Seq = seq
			if l, e := p.x.Offer(u); e != errSeq || len(l) != 0 {
				t.Errorf("%s: %d behind %d: %s, %d", name, seq, p.m.last, show(l), e)
			}
			p.holds()
		}
		for range 9 {
			u := put(p.m.last+1, "a", "b")
			p.offer(u)
			p.offer(u)
		}
		if p.x.Phase() != api.PhaseAborted {
			t.Errorf("%s: too many are kept", name)
		}
		last := p.x.Last()
		if l, e := p.x.Offer(put(last+1, "a", "b")); e != 0 || len(l) != 0 || p.x.Last() != last {
			t.Errorf("%s: behind the end: %s, %d, %d", name, show(l), e, p.x.Last())
		}
	}
}

// Just Settings.Deltas are kept; one more is too many, in each phase.
func TestOfferRoom(t *testing.T) {
	for _, deltas := range []int{1, 2, 3, 7, 64, 65, 4096} {
		for _, wanted := range [][]int{nil, {}, {3}, {3, 4, 5}} {
			p := begin(t, 7, load(api.State{Seq: 5, Rows: rows(100, 40)}), api.Settings{Depth: 1, Window: 2, Patience: 3, Chunk: 64, Deltas: deltas})
			if wanted != nil {
				p.take(want(7, wanted...))
			}
			l, e := []api.Msg{}, api.Errno(0)
			for n := range deltas {
				l, e = p.x.Offer(put(6+n, "a", "b"))
				if e != 0 || slices.Contains(kinds(l), 24) || p.x.Kept() != n+1 {
					t.Fatalf("%d of %d: %s, %d, %d", n+1, deltas, show(l), e, p.x.Kept())
				}
			}
			l, e = p.x.Offer(put(6+deltas, "a", "b"))
			if e != 0 || !slices.Equal(kinds(l), []int{24}) || p.x.Kept() != 0 || p.x.Last() != 6+deltas || p.x.Phase() != api.PhaseAborted {
				t.Fatalf("one more than %d: %s, %d, %d", deltas, show(l), e, p.x.Kept())
			}
			if a, b := p.x.Got(); a != 0 || b != 0 || p.x.Caught() != 5 {
				t.Fatal("Got, Caught behind the end")
			}
		}
	}
}

// Numbers at their end: an update is the next one whatever its number is.
func TestOfferLastNumber(t *testing.T) {
	p := begin(t, 7, load(api.State{Seq: top - 1}), small())
	p.take(want(7))
	goes(t, "the last number", p.offer(put(top, "a", "b")), later(top))
	p.take(caught(7, 0, top))
	p.offer(put(top, "a", "b"))
	if p.x.Caught() != top || p.x.Last() != top || p.x.Kept() != 0 {
		t.Errorf("%d, %d, %d", p.x.Caught(), p.x.Last(), p.x.Kept())
	}
}

// What an update says is not looked at, and goes out as it came.
func TestOfferAnything(t *testing.T) {
	p := begin(t, 7, two(), small())
	p.take(want(7))
	for _, u := range []api.Update{{Seq: 3}, {Seq: 4, Client: -1, Number: -1, Op: api.Op{Kind: 9, Key: "", Value: long(70000), Version: -1}}} {
		if l := p.offer(u); len(l) != 1 || l[0].Update != u {
			t.Errorf("%s", show(l))
		}
	}
}

// P17.5
func TestTick(t *testing.T) {
	for name, p := range phases(t) {
		moves := p.m.sent > p.m.got && p.m.phase != api.PhaseAborted || p.m.phase == api.PhaseDeltas && p.m.fed > p.m.caught
		for round := range 12 {
			l := p.tick()
			mayBe(t, l)
			if (len(l) > 0) != (moves && round%3 == 2) {
				t.Errorf("%s: tick %d: %s", name, round+1, show(l))
			}
		}
	}
	p := at(t, "chunks and updates")
	p.tick()
	p.tick()
	goes(t, "all that is under way", p.tick(), chunk(0), chunk(1), later(6), later(7))
	p = at(t, "deltas, some fell")
	p.tick()
	p.tick()
	goes(t, "what was not caught", p.tick(), later(7), later(8))
}

func TestTickPatience(t *testing.T) {
	for _, patience := range []int{1, 2, 3, 100} {
		s := small()
		s.Patience = patience
		p := begin(t, 7, load(api.State{Seq: 5, Rows: rows(100, 40)}), s)
		for range 2 * patience {
			goes(t, "digests are compared", p.tick())
		}
		p.take(want(7, 3, 4))
		for n := 1; n <= 3*patience; n++ {
			if l := p.tick(); (len(l) == 2) != (n%patience == 0) || len(l) != 0 && len(l) != 2 {
				t.Fatalf("patience %d, tick %d: %s", patience, n, show(l))
			}
		}
	}
}

// What arrives sets the clock to 0, and what says nothing new lets it be.
func TestTickAnew(t *testing.T) {
	for i, c := range []struct {
		m    api.Msg
		anew bool
	}{
		{got(7, 3), true}, {got(7, 4), true}, {got(7, 2), false}, {got(7, 1), false}, {got(7, 9), false},
		{caught(7, 3, 6), true}, {caught(7, 3, 7), true}, {caught(7, 3, 5), false}, {caught(7, 2, 6), false}, {caught(7, 3, 8), false},
		{want(7, 3, 4, 5), false}, {want(7, 3), false}, {asks(7, 0, 0), false}, {open(7, 3, api.Token{}), false}, {open(7, 2, api.Token{}), false},
		{open(7, 4, api.Token{Transfer: 7, Seq: 5, Next: 2}), true}, {open(6, 4, api.Token{}), false},
	} {
		p := at(t, "chunks, some got")
		p.next(2)
		p.tick()
		p.tick()
		p.take(c.m)
		if l := p.tick(); (len(l) == 0) != c.anew {
			t.Errorf("%d: %s", i, show(l))
		}
	}
	p := at(t, "chunks, some got")
	p.tick()
	p.tick()
	p.next(1)
	if l := p.tick(); len(l) != 3 {
		t.Errorf("an update that is offered lets the clock be: %s", show(l))
	}
}

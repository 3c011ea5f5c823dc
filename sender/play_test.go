package sender_test

import (
	"math"
	"math/rand"
	"testing"

	"hawser/api"
)

// play does some call, mostly such as a joiner and a tail do, and holds it against the model.
func play(p *pair, r *rand.Rand) []api.Msg {
	m := p.m
	switch n := r.Intn(32); {
	case n < 8:
		return p.offer(put(m.last+1, string([]byte{byte('a' + r.Intn(4))}), long(r.Intn(5))))
	case n < 9:
		return p.offer(put(pick(r, m.last, m.last+2, 0, -1, math.MaxInt, math.MinInt), "a", ""))
	case n < 14:
		return p.tick()
	default:
		x := word(p, r, n)
		if r.Intn(40) == 0 {
			x.Attempt += pick(r, -1, 1, math.MinInt, 100)
		}
		if r.Intn(60) == 0 {
			x.Kind = api.Kind(r.Intn(31) - 1)
		}
		return p.take(x)
	}
}

// word makes a message of a joiner.
func word(p *pair, r *rand.Rand, n int) api.Msg {
	m := p.m
	switch {
	case n < 17:
		t := api.Token{Transfer: m.attempt, Seq: m.state.Seq, Next: m.got + pick(r, -1, 0, 0, 0, 1, 2, 50)}
		if r.Intn(4) == 0 {
			t = api.Token{}
		}
		if r.Intn(10) == 0 {
			t.Seq += pick(r, -1, 1)
		}
		if r.Intn(10) == 0 {
			t.Transfer += pick(r, -1, 1)
		}
		return open(m.attempt, m.boot+pick(r, -1, 0, 0, 1, 1, 2, 100), t)
	case n < 19:
		return asks(m.attempt, r.Intn(4), some(r, 1+r.Intn(2), 1+r.Intn(20))...)
	case n < 22:
		if m.phase == api.PhaseProbe {
			return want(m.attempt, some(r, 1+r.Intn(m.set.Depth+1), pick(r, 0, 1, 5, 40))...)
		}
		return want(m.attempt, m.wanted[:len(m.wanted)-min(len(m.wanted), r.Intn(5)/4)]...)
	case n < 27:
		return got(m.attempt, pick(r, m.sent, m.sent, m.got+1, m.got, m.got-1, m.sent+1, r.Intn(m.sent+2)))
	case n < 31 || r.Intn(20) > 0:
		return caught(m.attempt, m.boot+pick(r, 0, 0, 0, 0, -1, 1), pick(r, m.fed, m.fed, m.caught+1, m.caught, m.caught-1, m.fed+1))
	default:
		return abort(m.attempt)
	}
}

// watch is what is seen of a sender from outside: P17.8, P17.9.
type watch struct {
	t   *testing.T
	set api.Settings
	got int // the greatest Seq of a Got that was taken without an error
}

func (w *watch) out(p *pair, l []api.Msg) {
	w.t.Helper()
	got, count := p.x.Got()
	for _, m := range l {
		switch m.Kind {
		case api.KindChunk:
			if i := m.Chunk.Index; i < w.got || i >= got+w.set.Window || i >= count {
				w.t.Fatalf("chunk %d goes out: got %d, earlier %d", i, got, w.got)
			}
		case api.KindDelta:
			if n := m.Update.Seq; n <= p.x.Caught() || n > p.x.Caught()+w.set.Window || n > p.x.Last() {
				w.t.Fatalf("update %d goes out: caught %d", n, p.x.Caught())
			}
		}
	}
	if p.x.Kept() > w.set.Deltas {
		w.t.Fatalf("kept: %d", p.x.Kept())
	}
}

func settings(r *rand.Rand) api.Settings {
	return api.Settings{Depth: 1 + r.Intn(2), Window: pick(r, 1, 2, 3, 8, 64), Patience: pick(r, 1, 2, 3, 7), Chunk: pick(r, 64, 65, 100, 500), Deltas: pick(r, 1, 2, 5, 30, 100, 4096)}
}

func TestPlays(t *testing.T) {
	reached := map[api.Phase]int{}
	for seed := range 1500 {
		r := rand.New(rand.NewSource(int64(seed)))
		set := settings(r)
		s := load(api.State{Seq: pick(r, 5, 6, 1000, top-50), Rows: rows(r.Intn(60), 40)})
		p := begin(t, pick(r, 1, 2, 7, top), s, set)
		w := &watch{t: t, set: set}
		for range 120 {
			l := play(p, r)
			w.got = max(w.got, p.m.got) // as the model has it: it is 0 again when all is given up, and no chunk goes out then
			w.out(p, l)
			mayBe(t, l)
			reached[p.x.Phase()]++
		}
	}
	for _, phase := range []api.Phase{api.PhaseProbe, api.PhaseChunks, api.PhaseDeltas, api.PhaseAborted} {
		if reached[phase] < 5000 {
			t.Errorf("phase %d: %d times alone", phase, reached[phase])
		}
	}
}

// R4: two senders know nothing of each other, nor of what is done with the store; and the same calls are answered the same.
func TestOnTheirOwn(t *testing.T) {
	for seed := range 60 {
		r := rand.New(rand.NewSource(int64(seed)))
		s := load(api.State{Seq: 5, Rows: rows(40, 40)})
		a, b := begin(t, 3, s, settings(r)), begin(t, 4, s, settings(r))
		for range 100 {
			play(a, r)
			b.holds()
			if _, e := s.Apply(api.Update{Seq: s.Seq() + 1, Client: 3, Number: s.Seq() + 1, Op: api.Op{Kind: 1, Key: string([]byte{byte(1 + r.Intn(255))}), Value: "other"}}); e != 0 {
				t.Fatal(e)
			}
			play(b, r)
			a.holds()
		}
	}
}

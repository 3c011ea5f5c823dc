package sender

import (
	"slices"

	"hawser/api"
)

// line is how far things have come that go out one behind the other: of all of them the first so many were sent, and the first so many of these have arrived.
type line struct {
	arrived, sent, all int
}

// goOn sends what may go out while no more than a window is under way, and answers from where, and up to where.
func (l *line) goOn(window int) (int, int) {
	from := l.sent
	l.sent = min(l.all, l.arrived+window)
	return from, l.sent
}

func (l line) underWay() bool { return l.sent > l.arrived }

// sends answers whether it is known which chunks there are, and the transfer goes on.
func (s *Sender) sends() bool { return s.phase == api.PhaseChunks || s.phase == api.PhaseDeltas }

// sendOn answers what may go out now.
func (s *Sender) sendOn() []api.Msg {
	if !s.sends() {
		return nil
	}
	return slices.Concat(s.sayChunks(s.chunks.goOn(s.set.Window)), s.sayUpdates(s.updates.goOn(s.set.Window)))
}

// sayChunks answers the messages with the chunks from an index on, up to ahead of another one.
func (s *Sender) sayChunks(from, to int) []api.Msg {
	var out []api.Msg
	for _, c := range s.cut[from:to] {
		m := s.say(api.KindChunk)
		m.Chunk = clone(c)
		out = append(out, m)
	}
	return out
}

// sayUpdates answers the messages with the updates behind a number, up to another one.
func (s *Sender) sayUpdates(from, to int) []api.Msg {
	var out []api.Msg
	base := s.base()
	for _, u := range s.kept[from-base : to-base] {
		m := s.say(api.KindDelta)
		m.Update = u
		out = append(out, m)
	}
	return out
}

// say begins a message. Who carries it puts its ends and the epoch in.
func (s *Sender) say(k api.Kind) api.Msg { return api.Msg{Kind: k, Attempt: s.attempt} }

// arrive notes that the chunks ahead of an index are kept for good.
func (s *Sender) arrive(next int) {
	clear(s.cut[s.chunks.arrived:next])
	s.chunks.arrived = next
	if next == s.chunks.all {
		s.phase = api.PhaseDeltas
	}
}

// base is the number behind which all updates are kept.
func (s *Sender) base() int { return s.updates.all - len(s.kept) }

// keepsAll answers whether no update was let fall.
func (s *Sender) keepsAll() bool { return s.base() == s.seq }

// letFall lets the updates fall that the joiner has applied. While chunks are missing all are kept: a joiner that crashes then can come back.
func (s *Sender) letFall() {
	if s.phase != api.PhaseDeltas {
		return
	}
	n := s.updates.arrived - s.base()
	clear(s.kept[:n]) // the list's memory stays for a while, what the updates say need not
	s.kept = s.kept[n:len(s.kept):len(s.kept)]
}

// giveUp ends the transfer for good, and answers what says so. Only what is told of it still is kept.
func (s *Sender) giveUp() []api.Msg {
	*s = Sender{
		attempt: s.attempt,
		phase:   api.PhaseAborted,
		seq:     s.seq,
		updates: line{arrived: s.updates.arrived, all: s.updates.all},
	}
	return []api.Msg{s.say(api.KindAbort)}
}

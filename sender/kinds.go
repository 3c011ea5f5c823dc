package sender

import (
	"slices"

	"hawser/api"
	"hawser/probe"
)

// act is what is done for a message, and what goes out.
type act func(*Sender, api.Msg) ([]api.Msg, api.Errno)

// acts answers what is done for each kind of message.
func acts() map[api.Kind]act {
	return map[api.Kind]act{
		api.KindOpen:   (*Sender).open,
		api.KindProbe:  (*Sender).probe,
		api.KindWant:   (*Sender).want,
		api.KindGot:    (*Sender).got,
		api.KindCaught: (*Sender).caught,
		api.KindAbort:  (*Sender).abort,
	}
}

// over tells a joiner that goes on that the transfer was given up.
func (s *Sender) over(m api.Msg) ([]api.Msg, api.Errno) {
	if m.Kind == api.KindAbort {
		return nil, api.OK
	}
	return []api.Msg{s.say(api.KindAbort)}, api.OK
}

// open tells a life of the joiner which state is transferred.
func (s *Sender) open(m api.Msg) ([]api.Msg, api.Errno) {
	switch {
	case m.Number < 1:
		return nil, api.ErrSenderMsg
	case m.Number < s.boot:
		return nil, api.OK
	case m.Number > s.boot:
		s.boot = m.Number
		return s.enter(m.Token), api.OK
	}
	return []api.Msg{s.opened()}, api.OK
}

// enter lets a new life of the joiner in: it has lost all updates, and of the chunks it has those ahead of its token.
func (s *Sender) enter(t api.Token) []api.Msg {
	s.updates.arrived, s.updates.sent = s.seq, s.seq
	switch {
	case !s.keepsAll():
		return s.giveUp()
	case s.fits(t):
		s.arrive(t.Next)
		s.chunks.sent = t.Next
	case s.chunks.arrived > 0:
		return s.giveUp()
	}
	s.clock = 0
	return slices.Concat([]api.Msg{s.opened()}, s.sendOn())
}

// fits answers whether a transfer can go on at a token.
func (s *Sender) fits(t api.Token) bool {
	return s.sends() && t.Transfer == s.attempt && t.Seq == s.seq && s.chunks.arrived <= t.Next && t.Next <= s.chunks.all
}

// opened is the message that says which state is transferred, and which chunk comes next.
func (s *Sender) opened() api.Msg {
	m := s.say(api.KindOpened)
	m.Number = s.boot
	m.Seq = s.seq
	m.Token = api.Token{Transfer: s.attempt, Seq: s.seq, Next: s.chunks.arrived}
	m.Digests = []api.Digest{s.tree.Root()}
	return m
}

// probe tells the digests that are asked for.
func (s *Sender) probe(m api.Msg) ([]api.Msg, api.Errno) {
	digests, err := probe.Answer(s.tree, m.Level, m.Buckets...)
	if err != api.OK {
		return nil, api.ErrSenderMsg
	}
	out := s.say(api.KindDigests)
	out.Level, out.Buckets, out.Digests = m.Level, slices.Clone(m.Buckets), digests
	return []api.Msg{out}, api.OK
}

// want cuts the buckets that are wanted. They stay the same till the end: who has lost the question asks it again.
func (s *Sender) want(m api.Msg) ([]api.Msg, api.Errno) {
	if s.sends() {
		if !slices.Equal(m.Buckets, s.wanted) {
			return nil, api.ErrSenderWant
		}
		return nil, api.OK
	}
	cut, err := Cut(s.store.State(), s.set.Depth, s.set.Chunk, m.Buckets...)
	if err != api.OK {
		return nil, api.ErrSenderWant
	}
	s.wanted = slices.Clone(m.Buckets)
	s.cut, s.chunks.all = cut, len(cut)
	s.store = nil
	s.phase = api.PhaseChunks
	s.arrive(0) // where there are no chunks this is all
	s.clock = 0
	return s.sendOn(), api.OK
}

// got notes that the joiner keeps chunks for good.
func (s *Sender) got(m api.Msg) ([]api.Msg, api.Errno) {
	switch {
	case m.Seq < 0 || m.Seq > s.chunks.sent:
		return nil, api.ErrSenderMsg
	case m.Seq <= s.chunks.arrived:
		return nil, api.OK
	}
	s.arrive(m.Seq)
	s.clock = 0
	return s.sendOn(), api.OK
}

// caught notes that the joiner has applied updates.
func (s *Sender) caught(m api.Msg) ([]api.Msg, api.Errno) {
	switch {
	case m.Number != s.boot:
		return nil, api.OK // what an earlier life had applied is lost
	case m.Seq > s.updates.sent:
		return nil, api.ErrSenderMsg
	case m.Seq <= s.updates.arrived:
		return nil, api.OK
	}
	s.updates.arrived = m.Seq
	s.clock = 0
	return s.sendOn(), api.OK
}

// abort gives the transfer up, as the joiner has done.
func (s *Sender) abort(api.Msg) ([]api.Msg, api.Errno) {
	s.giveUp()
	return nil, api.OK
}

package frame

import (
	"slices"

	"hawser/api"
)

// pieceBytes: so many bytes are taken in at once, so that what a Splitter sets
// aside does not grow with what it is handed.
const pieceBytes = 1 << 16

// Splitter finds frames in bytes that come in pieces. A copy of one goes on by
// itself.
type Splitter struct {
	held       *stretch // bytes of the stream; nil if no call made the Splitter
	at, end    int      // of held: its place, and where its stream ends
	most       int
	junk, lost int
	found      []api.Frame // in the call that goes on
}

// New answers a Splitter that takes bodies of at most so many bytes.
func New(most int) (*Splitter, api.Errno) {
	if most < 0 || most > api.MaxBody {
		return nil, api.ErrArg
	}
	return &Splitter{held: new(stretch), most: most}, api.OK
}

// Feed hands it some more bytes, and answers the frames that are found then.
func (s *Splitter) Feed(b []byte) []api.Frame {
	if !s.made() {
		return nil
	}
	do := steps()
	for piece := range slices.Chunk(b, pieceBytes) {
		s.take(piece)
		s.walk(do)
		s.leave()
	}
	return s.handOut()
}

// End tells it that no byte comes behind these, and answers the frames that
// are found in what waited.
func (s *Splitter) End() []api.Frame {
	if !s.made() {
		return nil
	}
	do := steps()
	do[api.ErrFrameShort] = (*Splitter).skip
	s.walk(do)
	s.leave()
	return s.handOut()
}

// Waits answers how many bytes wait for more.
func (s *Splitter) Waits() int {
	if !s.made() {
		return 0
	}
	return s.end - s.at
}

// Junk answers how many bytes were none of a frame, in all.
func (s *Splitter) Junk() int {
	if !s.made() {
		return 0
	}
	return s.junk
}

// Lost answers how many heads were right, and what stood behind them not.
func (s *Splitter) Lost() int {
	if !s.made() {
		return 0
	}
	return s.lost
}

// made says whether New made it.
func (s *Splitter) made() bool { return s != nil && s.held != nil }

// table is what is done by what is met; a step answers whether to go on.
type table [api.ErrFrameSum + 1]func(*Splitter) bool

// steps is the table as it is while more bytes may come.
func steps() table {
	return table{
		api.OK:            (*Splitter).find,
		api.ErrFrameShort: (*Splitter).wait,
		api.ErrFrameMagic: (*Splitter).skip,
		api.ErrFrameForm:  (*Splitter).skip,
		api.ErrFrameLong:  (*Splitter).skip,
		api.ErrFrameSum:   (*Splitter).lose,
	}
}

// walk goes on as far as it can.
func (s *Splitter) walk(do table) {
	for s.at < s.end {
		if step := do[s.meets()]; !step(s) {
			return
		}
	}
}

// meets is what is wrong with the bytes from its place on: OK if they begin
// with a whole frame.
func (s *Splitter) meets() api.Errno {
	b := s.left()
	if e := begins(b, s.most); e != api.OK {
		return e
	}
	if !s.held.holds(s.at, s.at+told(b)) {
		return api.ErrFrameSum
	}
	return api.OK
}

func (s *Splitter) find() bool {
	n := told(s.left())
	s.found = append(s.found, cut(s.left()[:n]))
	s.at += n
	return true
}

func (s *Splitter) wait() bool { return false }

func (s *Splitter) skip() bool {
	s.junk++
	s.at++
	return true
}

func (s *Splitter) lose() bool {
	s.lost++
	return s.skip()
}

// left is the bytes from its place on.
func (s *Splitter) left() []byte { return s.held.bytes[s.at:s.end] }

// take lays b behind the stream.
func (s *Splitter) take(b []byte) {
	if s.end < len(s.held.bytes) {
		// A copy of it has laid other bytes there.
		s.held = s.held.from(0, s.end)
	}
	s.held.bytes = append(s.held.bytes, b...)
	s.end = len(s.held.bytes)
}

// leave lets go of the bytes that it is past, once they are more than those
// that it would have to move for it.
func (s *Splitter) leave() {
	if n := s.Waits(); s.at > n {
		s.held = s.held.from(s.at, s.end)
		s.at, s.end = 0, n
	}
}

// handOut answers what was found in this call.
func (s *Splitter) handOut() []api.Frame {
	found := s.found
	s.found = nil
	return found
}

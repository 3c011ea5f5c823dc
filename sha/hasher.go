package sha

import "hawser/api"

// Hasher takes bytes piece by piece. A copy of one goes on by itself.
type Hasher struct {
	made  bool // any words may be loaded: they do not tell
	state state
}

// New answers a Hasher that has taken nothing.
func New() *Hasher { return &Hasher{made: true, state: beginning()} }

// Write takes some more bytes.
func (h *Hasher) Write(b []byte) {
	if h.ready() {
		h.state.take(b)
	}
}

// Sum answers the digest of all that was taken so far.
func (h *Hasher) Sum() api.Digest {
	if !h.ready() {
		return api.Digest{}
	}
	return h.state.digest()
}

// Len answers how many bytes were taken.
func (h *Hasher) Len() int {
	if !h.ready() {
		return 0
	}
	return h.state.size
}

// Reset makes it as New made it.
func (h *Hasher) Reset() {
	if h.ready() {
		h.state = beginning()
	}
}

// Save answers all that it is, as bytes.
func (h *Hasher) Save() []byte {
	if !h.ready() {
		return nil
	}
	return h.state.save()
}

// Load answers a Hasher that goes on where another one was saved.
func Load(b []byte) (*Hasher, api.Errno) {
	s, ok := load(b)
	if !ok {
		return nil, api.ErrShaSaved
	}
	return &Hasher{made: true, state: s}, api.OK
}

// ready says whether New or Load made it.
func (h *Hasher) ready() bool { return h != nil && h.made }

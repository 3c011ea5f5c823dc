package image

import (
	"hawser/api"
	"hawser/crc"
)

// Opener reads an image piece by piece. A copy of one goes on by itself.
type Opener struct {
	made  bool
	ended bool
	err   api.Errno // that a Write or End has answered
	size  int       // of the stream
	part  int       // that it waits for
	rest  *block    // what stands from that part's beginning on
	least int       // ahead of so many bytes of rest that part is not whole
	sum   uint32    // of all parts ahead
	seq   int
	left  int       // rows that are not there yet
	ahead string    // the key of the last row
	told  []api.Row // in the Write that goes on
}

// New answers an Opener that has read nothing.
func New() *Opener { return &Opener{made: true} }

// Write reads some more, and answers the rows that are whole by it.
func (o *Opener) Write(b []byte) (rows []api.Row, err api.Errno) {
	if err := o.shut(); err != api.OK {
		return nil, err
	}
	defer func() {
		if recover() != nil {
			err = o.err
		}
		rows, o.told = o.told, nil
	}()
	n := min(len(b), api.MaxImage-o.size)
	o.take(b[:n])
	o.must(n == len(b), api.ErrImageLong)
	return nil, api.OK
}

// End says that the image ends here, and answers its Seq.
func (o *Opener) End() (int, api.Errno) {
	if !o.isMade() {
		return 0, api.ErrMade
	}
	o.ended, o.rest = true, nil
	if o.err == api.OK && o.part != partEnd {
		o.err = api.ErrImageForm
	}
	if o.err != api.OK {
		return 0, o.err
	}
	return o.seq, api.OK
}

func (o *Opener) isMade() bool { return o != nil && o.made }

// shut is what Write answers where nothing is read any more, else OK.
func (o *Opener) shut() api.Errno {
	switch {
	case !o.isMade():
		return api.ErrMade
	case o.err != api.OK:
		return o.err
	case o.ended:
		return api.ErrImageForm
	}
	return api.OK
}

// must gives the stream up where something does not hold, from however deep inside.
func (o *Opener) must(holds bool, e api.Errno) {
	if !holds {
		o.err, o.rest = e, nil
		panic(e)
	}
}

// take reads bytes that the stream has room for.
func (o *Opener) take(b []byte) {
	o.size += len(b)
	// A long row that comes byte by byte is not read from its beginning on at each of them.
	if o.rest.size()+len(b) < o.least {
		o.rest = o.rest.with(b)
		return
	}
	all := o.rest.joined(b)
	o.rest, o.least = nil, 0
	o.rest = o.rest.with(o.walk(all))
}

// walk takes the parts that are whole off b, and answers what is left.
func (o *Opener) walk(b []byte) []byte {
	do := parts()
	for whole := true; whole; {
		var n int
		n, whole = do[o.part].take(o, b)
		o.sum = crc.More(o.sum, b[:n])
		b = b[n:]
		if whole {
			o.part++
		}
	}
	return b
}

package image

import (
	"hawser/api"
	"hawser/pack"
)

// The parts of a stream, in their order.
const (
	partMark = iota
	partSeq
	partCount
	partRows
	partSum
	partEnd // nothing: whatever stands there is wrong
	partsInAll
)

// part is what is done with one of them. take is given what stands from the part's beginning on, and answers how
// many bytes it has taken, and whether the part is whole by them.
type part struct {
	take func(o *Opener, b []byte) (int, bool)
}

func parts() [partsInAll]part {
	return [partsInAll]part{
		partMark:  {take: (*Opener).takeMark},
		partSeq:   {take: (*Opener).takeSeq},
		partCount: {take: (*Opener).takeCount},
		partRows:  {take: (*Opener).takeRows},
		partSum:   {take: (*Opener).takeSum},
		partEnd:   {take: (*Opener).takeNothing},
	}
}

func (o *Opener) takeMark(b []byte) (int, bool) {
	n := min(len(b), len(mark))
	o.must(string(b[:n]) == mark[:n], api.ErrImageForm)
	if n < len(mark) {
		return 0, false
	}
	return n, true
}

func (o *Opener) takeSeq(b []byte) (int, bool) { return o.takeNumber(b, &o.seq, api.MaxSeq) }

func (o *Opener) takeCount(b []byte) (int, bool) { return o.takeNumber(b, &o.left, api.MaxRows) }

func (o *Opener) takeNumber(b []byte, to *int, most int) (int, bool) {
	r := pack.NewReader(b[:min(len(b), numberBytes)])
	*to = r.Int(most)
	return r.At(), o.there(r)
}

// takeRows takes all rows that are whole: a reader copies what it is given, so each row by one of its own would go
// over all that stands behind it.
func (o *Opener) takeRows(b []byte) (int, bool) {
	r := pack.NewReader(b)
	for ; o.left > 0; o.left-- {
		row := r.Row()
		if !o.there(r) {
			o.least = needs(b[r.At():])
			return r.At(), false
		}
		o.must(follows(row, o.ahead, o.seq), api.ErrImageForm)
		o.told = append(o.told, row)
		o.ahead = row.Key
	}
	return r.At(), true
}

func (o *Opener) takeSum(b []byte) (int, bool) {
	if len(b) < sumBytes {
		return 0, false
	}
	o.must([sumBytes]byte(b) == sumOf(o.sum), api.ErrImageSum)
	return sumBytes, true
}

func (o *Opener) takeNothing(b []byte) (int, bool) {
	o.must(len(b) == 0, api.ErrImageForm)
	return 0, false
}

// there says whether a reader has had all bytes that it needed; what else is wrong gives the stream up.
func (o *Opener) there(r *pack.Reader) bool {
	e := r.Err()
	o.must(e == api.OK || e == api.ErrPackShort, api.ErrImageForm)
	return e == api.OK
}

// needs is how many bytes a row has at least that begins with b, and is not whole in it.
func needs(b []byte) int {
	end := 0
	for _, most := range [...]int{api.MaxKey, api.MaxValue} {
		r := pack.NewReader(b[end:min(len(b), end+numberBytes)])
		n := r.Int(most)
		if r.Err() != api.OK {
			break
		}
		end += r.At() + n
		if end > len(b) {
			return end
		}
	}
	return len(b) + 1
}

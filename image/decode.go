package image

import (
	"hawser/api"
	"hawser/crc"
	"hawser/pack"
)

// Decode answers the state whose image b is.
func Decode(b []byte) (s api.State, err api.Errno) {
	defer func() {
		if recover() != nil {
			s, err = api.State{}, api.ErrImageForm
		}
	}()
	switch {
	case len(b) > api.MaxImage:
		return api.State{}, api.ErrImageLong
	case len(b) < leastBytes || !marked(b):
		return api.State{}, api.ErrImageForm
	case !crc.Holds(b):
		return api.State{}, api.ErrImageSum
	}
	return takeState(pack.NewReader(b[len(mark) : len(b)-sumBytes])), api.OK
}

// Peek answers the Seq and the count of rows that an image's beginning tells.
func Peek(b []byte) (int, int, api.Errno) {
	seq, count, _, err := head(b)
	return seq, count, err
}

// Room answers how many rows there can be at most behind such a beginning.
func Room(b []byte) int {
	_, count, end, _ := head(b)
	return min(count, max(0, len(b)-end-sumBytes)/rowBytes)
}

// marked says whether b begins with the mark.
func marked(b []byte) bool {
	return len(b) >= len(mark) && string(b[:len(mark)]) == mark
}

// head answers the Seq and the count that stand behind the mark, and where they end.
func head(b []byte) (seq, count, end int, err api.Errno) {
	if !marked(b) {
		return 0, 0, 0, api.ErrImageForm
	}
	// A reader copies what it is given, and of a long image that would be too much for two numbers.
	r := pack.NewReader(b[len(mark):min(len(b), len(mark)+2*numberBytes)])
	seq, count = r.Int(api.MaxSeq), r.Int(api.MaxRows)
	if r.Err() != api.OK {
		return 0, 0, 0, api.ErrImageForm
	}
	return seq, count, len(mark) + r.At(), api.OK
}

// takeState takes up a state that is all of what a reader has.
func takeState(r *pack.Reader) api.State {
	seq := r.Int(api.MaxSeq)
	// Count holds the rows that are told of against the bytes that are there, ahead of any room for them.
	rows := make([]api.Row, r.Count(api.MaxRows, rowBytes))
	ahead := ""
	for i := range rows {
		rows[i] = r.Row()
		must(follows(rows[i], ahead, seq))
		ahead = rows[i].Key
	}
	must(r.End() == api.OK)
	return api.State{Seq: seq, Rows: rows}
}

// must gives up, from however deep inside, what a face was asked to read.
func must(holds bool) {
	if !holds {
		panic(api.ErrImageForm)
	}
}

package delta

import (
	"hawser/api"
	"hawser/pack"
)

// Encode answers an update's bytes.
func Encode(u api.Update) ([]byte, api.Errno) {
	if err := CheckUpdate(u); err != api.OK {
		return nil, err
	}
	var w pack.Writer
	w.Int(u.Seq, api.MaxSeq)
	w.Int(u.Client, api.MaxClients)
	w.Int(u.Number, api.MaxNumber)
	w.Int(int(u.Op.Kind), int(api.OpCas))
	w.Text(u.Op.Key, api.MaxKey)
	if u.Op.Kind != api.OpDelete {
		w.Text(u.Op.Value, api.MaxValue)
	}
	if u.Op.Kind == api.OpCas {
		w.Int(u.Op.Version, api.MaxSeq)
	}
	return w.Bytes()
}

// Decode answers the update that bytes are.
func Decode(b []byte) (u api.Update, err api.Errno) {
	defer func() {
		if recover() != nil {
			u, err = api.Update{}, api.ErrDeltaForm
		}
	}()
	return takeUpdate(pack.NewReader(b)), api.OK
}

// takeUpdate takes up an update that is all of what a reader has.
func takeUpdate(r *pack.Reader) api.Update {
	var u api.Update
	u.Seq = r.Int(api.MaxSeq)
	u.Client = r.Int(api.MaxClients)
	u.Number = r.Int(api.MaxNumber)
	u.Op.Kind = api.OpKind(r.Int(int(api.OpCas)))
	must(r.Err()) // the kind says what comes behind it
	u.Op.Key = r.Text(api.MaxKey)
	if u.Op.Kind != api.OpDelete {
		u.Op.Value = r.Text(api.MaxValue)
	}
	if u.Op.Kind == api.OpCas {
		u.Op.Version = r.Int(api.MaxSeq)
	}
	must(r.End())
	must(CheckUpdate(u))
	return u
}

// must gives up, from however deep inside, what Decode was asked for.
func must(err api.Errno) {
	if err != api.OK {
		panic(err)
	}
}

// Stream answers updates as bytes, one behind the other, each behind its length.
func Stream(l ...api.Update) ([]byte, api.Errno) {
	var w pack.Writer
	for _, u := range l {
		b, err := Encode(u)
		if err != api.OK {
			return nil, err
		}
		w.Text(string(b), len(b))
	}
	return w.Bytes()
}

// Split answers the updates of a stream, as far as they are whole, and how many bytes they have.
func Split(b []byte) ([]api.Update, int) {
	var l []api.Update
	end := 0
	r := pack.NewReader(b)
	for r.Left() > 0 {
		// A text that is not whole is answered as an empty one, which is no update.
		u, err := Decode([]byte(r.Text(len(b))))
		if err != api.OK {
			break
		}
		l, end = append(l, u), r.At()
	}
	return l, end
}

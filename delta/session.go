package delta

import (
	"hawser/api"
	"hawser/pack"
)

// Session answers the key of a client's session.
func Session(client int) (string, api.Errno) {
	if !within(client, 1, api.MaxClients) {
		return "", api.ErrDeltaClient
	}
	return string([]byte{0, 0x73, byte(client)}), api.OK
}

// isSession answers whether a key is some client's Session.
func isSession(key string) bool {
	if len(key) != 3 {
		return false
	}
	own, err := Session(int(key[2]))
	return err == api.OK && key == own
}

// session is what a store keeps of a client: the number of its last request, and how that went.
type session struct {
	number int
	result api.Result
}

// value answers a session as the value of a row.
func (x session) value() string {
	var w pack.Writer
	w.Int(x.number, api.MaxNumber)
	w.Int(int(x.result.Code), int(api.CodeFull))
	w.Int(x.result.Version, api.MaxSeq)
	b, _ := w.Bytes()
	return string(b)
}

// sessionIn answers the session that a row's value is; false, if it is none that may be.
func sessionIn(r api.Row) (session, bool) {
	in := pack.NewReader([]byte(r.Value))
	number := in.Int(api.MaxNumber)
	code := api.Code(in.Int(int(api.CodeFull)))
	x := session{number, api.Result{Code: code, Version: in.Int(api.MaxSeq)}}
	if in.End() != api.OK || number < 1 || !mayBe(x.result, r.Version) {
		return session{}, false
	}
	return x, true
}

// mayBe answers whether a request whose update has this number may have gone so.
func mayBe(x api.Result, seq int) bool {
	switch x.Code {
	case api.CodeDone:
		return x.Version == seq
	case api.CodeNone, api.CodeFull:
		return x.Version == 0
	}
	return x.Code == api.CodeStale
}

package delta

import (
	"hawser/api"
	"hawser/table"
)

// Store is rows behind some updates. New, Load and Snapshot make one.
type Store struct {
	rows
	seq int
}

// New answers a store behind no update.
func New() *Store { return &Store{rows: rows{table.New()}} }

// Load answers a store in a state.
func Load(s api.State) (*Store, api.Errno) {
	all, err := table.From(s.Rows...)
	if err != api.OK || !within(s.Seq, 0, api.MaxSeq) {
		return nil, api.ErrDeltaState
	}
	for _, r := range s.Rows {
		if !mayStand(r, s.Seq) {
			return nil, api.ErrDeltaState
		}
	}
	made := &Store{rows{all}, s.Seq}
	if made.users() > maxUsers {
		return nil, api.ErrDeltaState
	}
	return made, api.OK
}

// mayStand answers whether a row that a table may have may be one of a store behind an update.
func mayStand(r api.Row, seq int) bool {
	if r.Version > seq {
		return false
	}
	if isUsers(r.Key) {
		return true
	}
	_, whole := sessionIn(r)
	return whole && isSession(r.Key)
}

// Apply does the next update.
func (s *Store) Apply(u api.Update) (api.Result, api.Errno) {
	if !s.isMade() {
		return api.Result{}, api.ErrMade
	}
	if err := CheckUpdate(u); err != api.OK {
		return api.Result{}, err
	}
	if u.Seq != s.seq+1 {
		return api.Result{}, api.ErrDeltaSeq
	}
	s.seq = u.Seq
	last, result, _ := s.Last(u.Client)
	switch {
	case u.Number < last:
		return api.Result{Code: api.CodeOld}, api.OK
	case u.Number > last:
		result = deeds()[u.Op.Kind](s, u)
		s.remember(u, result)
	}
	return result, api.OK
}

// deeds answers what is done by each kind of operation.
func deeds() map[api.OpKind]func(*Store, api.Update) api.Result {
	return map[api.OpKind]func(*Store, api.Update) api.Result{
		api.OpPut:    (*Store).set,
		api.OpDelete: (*Store).unset,
		api.OpCas:    (*Store).swap,
	}
}

func (s *Store) set(u api.Update) api.Result {
	if _, there := s.find(u.Op.Key); !there && s.users() >= maxUsers {
		return api.Result{Code: api.CodeFull}
	}
	s.put(api.Row{Key: u.Op.Key, Value: u.Op.Value, Version: u.Seq})
	return api.Result{Code: api.CodeDone, Version: u.Seq}
}

func (s *Store) unset(u api.Update) api.Result {
	if !s.drop(u.Op.Key) {
		return api.Result{Code: api.CodeNone}
	}
	return api.Result{Code: api.CodeDone, Version: u.Seq}
}

func (s *Store) swap(u api.Update) api.Result {
	r, _ := s.find(u.Op.Key) // the version of no row is 0
	if r.Version != u.Op.Version {
		return api.Result{Code: api.CodeStale, Version: r.Version}
	}
	return s.set(u)
}

// remember lays down how a client's last request went.
func (s *Store) remember(u api.Update, result api.Result) {
	key, _ := Session(u.Client)
	s.put(api.Row{Key: key, Value: session{u.Number, result}.value(), Version: u.Seq})
}

// Seq answers the number of the last update.
func (s *Store) Seq() int {
	if !s.isMade() {
		return 0
	}
	return s.seq
}

// Get answers a key's row; false, if there is none.
func (s *Store) Get(key string) (api.Row, bool) {
	if !s.isMade() {
		return api.Row{}, false
	}
	return s.find(key)
}

// Last answers the number of a client's last request, how that went, and its update's number; zeros, if there is none.
func (s *Store) Last(client int) (int, api.Result, int) {
	key, err := Session(client)
	if err != api.OK || !s.isMade() {
		return 0, api.Result{}, 0
	}
	r, _ := s.find(key)
	x, _ := sessionIn(r)
	return x.number, x.result, r.Version
}

// State answers all of a store, as plain data.
func (s *Store) State() api.State {
	if !s.isMade() {
		return api.State{}
	}
	return api.State{Seq: s.seq, Rows: s.list()}
}

// Snapshot answers a store in the same state; what is done to the one is not seen at the other.
func (s *Store) Snapshot() *Store {
	if !s.isMade() {
		return nil
	}
	return &Store{s.rows, s.seq}
}

// Table answers a store's rows; what is done to them is not seen at the store.
func (s *Store) Table() *table.Table {
	if !s.isMade() {
		return nil
	}
	return s.all.Snapshot()
}

func (s *Store) isMade() bool { return s != nil && s.all != nil }

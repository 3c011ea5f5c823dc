package delta

import (
	"hawser/api"
	"hawser/table"
)

// maxUsers: so many user rows there may be that each client's session has room beside them.
const maxUsers = api.MaxRows - api.MaxClients

// leastUsers: no user's key is less, and each of the store's own is.
const leastUsers = "\x01"

// rows is a store's table. What it lends to the store is not the table's own calls: by these one could change a store from outside, without an update. The table that it holds is never changed but given up for another one, so that whoever has a copy keeps what it had.
type rows struct {
	all *table.Table
}

// find answers a key's row; false, if there is none.
func (r *rows) find(key string) (api.Row, bool) { return r.all.Get(key) }

// put lays down a row that may be, for which there is room.
func (r *rows) put(x api.Row) {
	next := r.all.Snapshot()
	next.Put(x)
	r.all = next
}

// drop takes a key's row away, and answers whether there was one.
func (r *rows) drop(key string) bool {
	next := r.all.Snapshot()
	gone := next.Delete(key)
	r.all = next
	return gone
}

// users answers how many user rows there are.
func (r *rows) users() int { return r.all.Len() - r.all.Rank(leastUsers) }

// list answers all rows by rising keys.
func (r *rows) list() []api.Row {
	l := make([]api.Row, 0, r.all.Len())
	for x := range r.all.Rows(api.Range{}) {
		l = append(l, x)
	}
	return l
}

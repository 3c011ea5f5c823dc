package vers

import (
	"hawser/api"
	"hawser/delta"
)

// kept is what a book keeps. The store is embedded here and not in the Book: there the calls that it lends would panic at a nil Book, and State, Snapshot and Table would be calls of a book. No store in it is ever changed, but given up for another one, so that those behind the open updates stay, and share what they have in common.
type kept struct {
	*delta.Store                // that has applied all
	base         *delta.Store   // that has applied what is committed
	open         []step         // without a gap behind the base
	keys         map[string]int // how many open updates name a key
}

// step is an open update, and the store behind it.
type step struct {
	update api.Update
	behind *delta.Store
}

// over answers what a book keeps over a base, behind which nothing is open.
func over(base *delta.Store) *kept {
	return &kept{Store: base, base: base, keys: map[string]int{}}
}

func (k *kept) apply(u api.Update) (api.Result, api.Errno) {
	next := k.Snapshot()
	result, err := next.Apply(u)
	if err != api.OK {
		return api.Result{}, err
	}
	k.Store = next
	k.open = append(k.open, step{u, next})
	k.keys[u.Op.Key]++
	return result, api.OK
}

// commit has the store behind a number, which is kept, be the base.
func (k *kept) commit(seq int) {
	n := k.place(seq)
	k.base = k.behind(seq)
	for _, s := range k.open[:n] {
		k.shut(s.update.Op.Key)
	}
	clear(k.open[:n]) // else the list's memory would hold what is committed
	k.open = k.open[n:]
}

// shut notes that one update less names a key.
func (k *kept) shut(key string) {
	k.keys[key]--
	if k.keys[key] == 0 {
		delete(k.keys, key)
	}
}

// place answers how many open updates there are up to a number that is kept.
func (k *kept) place(seq int) int { return seq - k.base.Seq() }

// behind answers the store behind a number that is kept.
func (k *kept) behind(seq int) *delta.Store {
	n := k.place(seq)
	if n == 0 {
		return k.base
	}
	return k.open[n-1].behind
}

// from answers the open updates behind a number that is kept.
func (k *kept) from(seq int) []api.Update {
	later := k.open[k.place(seq):]
	l := make([]api.Update, len(later))
	for i, s := range later {
		l[i] = s.update
	}
	return l
}

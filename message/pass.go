package message

import (
	"hawser/api"
	"hawser/pack"
)

// pass is a message on its way from one that is given into bytes, or from bytes into one. Each kind of field has a
// method that carries it, so that what may be, and what bytes it has, is said once for both ways.
type pass struct {
	given  api.Msg      // on the way out; on the way in nothing
	passed api.Msg      // what was carried so far
	in     *pack.Reader // nil on the way out
	out    *pack.Writer // nil on the way in, and where no bytes are wanted: a nil Writer lets everything go
}

// carry carries a whole message of a kind.
func (p *pass) carry(k api.Kind) {
	p.passed.Kind = k
	p.ends()
	for _, field := range fields()[k] {
		field(p)
	}
}

// num carries a number. On the way in what is given does not count; so of all that follow.
func (p *pass) num(given, least, most int) int {
	if p.in != nil {
		given = p.in.Int(most)
	}
	must(least <= given && given <= most)
	p.out.Int(given, most)
	return given
}

func (p *pass) flag(given bool) bool {
	if p.in != nil {
		given = p.in.Flag()
	}
	p.out.Flag(given)
	return given
}

func (p *pass) digest(given api.Digest) api.Digest {
	if p.in != nil {
		given = p.in.Digest()
	}
	p.out.Digest(given)
	return given
}

func (p *pass) row(given api.Row) api.Row {
	if p.in != nil {
		given = p.in.Row()
	}
	must(mayBe(given))
	p.out.Row(given)
	return given
}

// mayBe answers whether a row may be.
func mayBe(r api.Row) bool {
	key := r.Key != "" && len(r.Key) <= api.MaxKey
	version := r.Version >= 1 && r.Version <= api.MaxSeq
	return key && len(r.Value) <= api.MaxValue && version
}

// limits are how many things a list may have, and how many bytes each of them has at least.
type limits struct{ least, most, bytes int }

// list carries how many things a list has, and these, one by one.
func list[T any](p *pass, given []T, l limits, each func(T) T) []T {
	n := len(given)
	if p.in != nil {
		n = p.in.Count(l.most, l.bytes)
	}
	must(l.least <= n && n <= l.most)
	p.out.Int(n, l.most)
	passed := make([]T, n)
	copy(passed, given)
	for i, v := range passed {
		passed[i] = each(v)
	}
	return passed
}

package message

import (
	"strings"

	"hawser/api"
	"hawser/delta"
)

// maxBuckets is how many buckets the deepest tree has.
const maxBuckets = 1 << 12

// maxChunks: a transfer has no more chunks than rows and buckets together.
const maxChunks = api.MaxRows + maxBuckets

// ends carries from where to where a message goes, which must be a way of its kind.
func (p *pass) ends() {
	p.passed.From = p.num(p.given.From, 0, maxAddress)
	p.passed.To = p.num(p.given.To, 0, maxAddress)
	from, to := p.passed.From, p.passed.To
	must(from != to && strings.Contains(ways(p.passed.Kind), way(from, to)))
}

func (p *pass) epoch() { p.passed.Epoch = p.num(p.given.Epoch, 1, api.MaxEpoch) }

func (p *pass) since() { p.passed.Epoch = p.num(p.given.Epoch, 0, api.MaxEpoch) }

func (p *pass) attempt() { p.passed.Attempt = p.num(p.given.Attempt, 1, api.MaxNumber) }

// attempt0: a client has none.
func (p *pass) attempt0() {
	p.passed.Attempt = p.num(p.given.Attempt, 0, api.MaxNumber)
	must(p.passed.Attempt == 0 || !isClient(p.passed.From))
}

// client: one that sends or gets the message can be no other than the one that it is about.
func (p *pass) client() {
	c := p.num(p.given.Client, 1, api.MaxClients)
	for _, end := range [...]int{p.passed.From, p.passed.To} {
		must(!isClient(end) || end == api.Clients+c)
	}
	p.passed.Client = c
}

func (p *pass) number() { p.passed.Number = p.num(p.given.Number, 1, api.MaxNumber) }

func (p *pass) boot() { p.number() }

func (p *pass) upto() { p.passed.Number = p.num(p.given.Number, p.passed.Seq, api.MaxSeq) }

func (p *pass) joiner() {
	p.passed.Number = p.num(p.given.Number, 1, api.MaxNodes)
	must(p.passed.Number != p.passed.To)
}

func (p *pass) seq() { p.passed.Seq = p.num(p.given.Seq, 0, api.MaxSeq) }

func (p *pass) key() { p.passed.Key = p.users(p.given.Key) }

// users carries a user's key.
func (p *pass) users(given string) string {
	if p.in != nil {
		given = p.in.Text(api.MaxKey)
	}
	must(isUsers(given))
	p.out.Text(given, api.MaxKey)
	return given
}

// isUsers answers whether a text is a user's key: those are what operations may name.
func isUsers(key string) bool {
	return delta.Check(api.Op{Kind: api.OpDelete, Key: key}) == api.OK
}

// op: an operation has no bytes of its own, so it goes as the first update of all.
func (p *pass) op() {
	u := p.whole(api.Update{Seq: 1, Client: 1, Number: 1, Op: p.given.Op})
	must(u.Seq == 1 && u.Client == 1 && u.Number == 1)
	p.passed.Op = u.Op
}

func (p *pass) update() { p.passed.Update = p.whole(p.given.Update) }

// whole carries an update.
func (p *pass) whole(given api.Update) api.Update {
	if p.in != nil {
		u, err := delta.Decode([]byte(p.in.Text(api.MaxBody)))
		must(err == api.OK)
		return u
	}
	must(delta.CheckUpdate(given) == api.OK)
	if p.out != nil {
		b, _ := delta.Encode(given)
		p.out.Text(string(b), api.MaxBody)
	}
	return given
}

func (p *pass) result() {
	code := p.num(int(p.given.Result.Code), int(api.CodeDone), int(api.CodeOld))
	p.passed.Result = api.Result{Code: api.Code(code), Version: p.num(p.given.Result.Version, 0, api.MaxSeq)}
}

// found carries Found and the row, of which the key alone is there where none was found.
func (p *pass) found() {
	p.passed.Found = p.flag(p.given.Found)
	if !p.passed.Found {
		p.passed.Row.Key = p.users(p.given.Row.Key)
		return
	}
	p.passed.Row = p.row(p.given.Row)
	must(isUsers(p.passed.Row.Key))
}

func (p *pass) config() {
	p.passed.Config.Epoch = p.num(p.given.Config.Epoch, 1, api.MaxEpoch)
	var there [api.MaxNodes + 1]bool
	p.passed.Config.Chain = list(p, p.given.Config.Chain, limits{1, api.MaxNodes, 1}, func(node int) int {
		node = p.num(node, 1, api.MaxNodes)
		must(!there[node])
		there[node] = true
		return node
	})
}

func (p *pass) token() {
	t := p.given.Token
	t.Transfer = p.num(t.Transfer, 0, api.MaxNumber)
	t.Seq = p.num(t.Seq, 0, api.MaxSeq)
	t.Next = p.num(t.Next, 0, maxChunks)
	must(t == api.Token{} || t.Transfer == p.passed.Attempt)
	p.passed.Token = t
}

// tokenOpened carries the token of an opened, which tells its Seq, too.
func (p *pass) tokenOpened() {
	p.token()
	must(p.passed.Token != api.Token{})
	p.passed.Seq = p.passed.Token.Seq
}

func (p *pass) level() { p.passed.Level = p.num(p.given.Level, 0, api.MaxDepth) }

func (p *pass) nodes() { p.passed.Buckets = p.rising(p.given.Buckets, limits{1, api.MaxAsk, 1}) }

func (p *pass) buckets() { p.passed.Buckets = p.rising(p.given.Buckets, limits{0, maxBuckets, 1}) }

// rising carries numbers of buckets, or of nodes above these.
func (p *pass) rising(given []int, l limits) []int {
	least := 0
	return list(p, given, l, func(n int) int {
		n = p.num(n, least, maxBuckets-1)
		least = n + 1
		return n
	})
}

func (p *pass) root() { p.inAll(1) }

func (p *pass) digests() { p.inAll(len(p.passed.Buckets)) }

// inAll carries digests, of which the number goes without saying.
func (p *pass) inAll(n int) {
	given := p.given.Digests
	if p.in != nil {
		given = make([]api.Digest, n)
	}
	must(len(given) == n)
	for _, d := range given {
		p.passed.Digests = append(p.passed.Digests, p.digest(d))
	}
}

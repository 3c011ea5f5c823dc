package message

import (
	"strings"

	"hawser/api"
)

// kinds are the kinds' names and ways: from and to a node n, the master m, a client c.
var kinds = [...]struct{ name, ways string }{
	api.KindRequest:  {"request", "c>n"},
	api.KindReply:    {"reply", "n>c"},
	api.KindRead:     {"read", "c>n"},
	api.KindValue:    {"value", "n>c"},
	api.KindWrong:    {"wrong", "n>c"},
	api.KindLookup:   {"lookup", "n>m c>m"},
	api.KindConfig:   {"config", "m>n m>c"},
	api.KindAdopted:  {"adopted", "n>m"},
	api.KindForward:  {"forward", "n>n"},
	api.KindAck:      {"ack", "n>n"},
	api.KindQuery:    {"query", "n>n"},
	api.KindAnswer:   {"answer", "n>n"},
	api.KindJoin:     {"join", "n>m"},
	api.KindBegin:    {"begin", "m>n"},
	api.KindOpen:     {"open", "n>n"},
	api.KindOpened:   {"opened", "n>n"},
	api.KindProbe:    {"probe", "n>n"},
	api.KindDigests:  {"digests", "n>n"},
	api.KindWant:     {"want", "n>n"},
	api.KindChunk:    {"chunk", "n>n"},
	api.KindGot:      {"got", "n>n"},
	api.KindDelta:    {"delta", "n>n"},
	api.KindCaught:   {"caught", "n>n"},
	api.KindAbort:    {"abort", "n>n n>m"},
	api.KindReady:    {"ready", "n>m"},
	api.KindPrepare:  {"prepare", "m>n"},
	api.KindPrepared: {"prepared", "n>m"},
	api.KindCancel:   {"cancel", "m>n"},
}

// fields answers what each kind's body has behind the ends, in this order.
func fields() map[api.Kind][]func(*pass) {
	return map[api.Kind][]func(*pass){
		api.KindRequest:  {(*pass).client, (*pass).number, (*pass).op},
		api.KindReply:    {(*pass).epoch, (*pass).client, (*pass).number, (*pass).result},
		api.KindRead:     {(*pass).client, (*pass).number, (*pass).key},
		api.KindValue:    {(*pass).epoch, (*pass).client, (*pass).number, (*pass).found},
		api.KindWrong:    {(*pass).client, (*pass).number, (*pass).config},
		api.KindLookup:   {(*pass).since, (*pass).attempt0},
		api.KindConfig:   {(*pass).config},
		api.KindAdopted:  {(*pass).epoch},
		api.KindForward:  {(*pass).epoch, (*pass).update},
		api.KindAck:      {(*pass).epoch, (*pass).seq, (*pass).upto},
		api.KindQuery:    {(*pass).epoch, (*pass).client, (*pass).number},
		api.KindAnswer:   {(*pass).epoch, (*pass).client, (*pass).number, (*pass).seq},
		api.KindJoin:     {(*pass).boot},
		api.KindBegin:    {(*pass).attempt, (*pass).boot, (*pass).config},
		api.KindOpen:     {(*pass).epoch, (*pass).attempt, (*pass).boot, (*pass).token},
		api.KindOpened:   {(*pass).attempt, (*pass).boot, (*pass).tokenOpened, (*pass).root},
		api.KindProbe:    {(*pass).attempt, (*pass).level, (*pass).nodes},
		api.KindDigests:  {(*pass).attempt, (*pass).level, (*pass).nodes, (*pass).digests},
		api.KindWant:     {(*pass).attempt, (*pass).buckets},
		api.KindChunk:    {(*pass).attempt, (*pass).chunk},
		api.KindGot:      {(*pass).attempt, (*pass).seq},
		api.KindDelta:    {(*pass).attempt, (*pass).update},
		api.KindCaught:   {(*pass).attempt, (*pass).boot, (*pass).seq},
		api.KindAbort:    {(*pass).attempt},
		api.KindReady:    {(*pass).attempt, (*pass).boot, (*pass).seq},
		api.KindPrepare:  {(*pass).epoch, (*pass).attempt, (*pass).joiner},
		api.KindPrepared: {(*pass).epoch, (*pass).attempt, (*pass).seq},
		api.KindCancel:   {(*pass).epoch, (*pass).attempt},
	}
}

// isKind answers whether a kind is one.
func isKind(k api.Kind) bool { return k >= api.KindRequest && k <= api.KindCancel }

// Name answers a kind's name; an empty one, if it is none.
func Name(k api.Kind) string {
	if !isKind(k) {
		return ""
	}
	return kinds[k].name
}

// Between answers whether a kind goes from node to node, from or to the master, from or to a client.
func Between(k api.Kind) (nodes, master, clients bool) {
	w := ways(k)
	return strings.Contains(w, "n>n"), strings.Contains(w, "m"), strings.Contains(w, "c")
}

// ways answers the ways that a kind goes; none, if it is none.
func ways(k api.Kind) string {
	if !isKind(k) {
		return ""
	}
	return kinds[k].ways
}

// way answers the way from an address to an address, as ways has it.
func way(from, to int) string { return string([]byte{side(from), '>', side(to)}) }

// side answers what has an address; what none has is on no way.
func side(address int) byte {
	switch {
	case address == api.Master:
		return 'm'
	case isNode(address):
		return 'n'
	case isClient(address):
		return 'c'
	}
	return '?'
}

func isNode(address int) bool { return address >= 1 && address <= api.MaxNodes }

func isClient(address int) bool { return address > api.Clients && address <= maxAddress }

const maxAddress = api.Clients + api.MaxClients

package message_test

import (
	"encoding/binary"
	"fmt"
	"reflect"
	"slices"
	"strings"
	"testing"

	"hawser/api"
	"hawser/frame"
	"hawser/message"
)

// The errors by their numbers, as the chapter has them.
const (
	errKind  = api.Errno(150)
	errField = api.Errno(151)
	errForm  = api.Errno(152)
)

const (
	top      = 1 << 60
	topEpoch = 1 << 40
)

// kindRow is a row of the chapter's table 'Which kind has what'.
type kindRow struct {
	kind   api.Kind
	name   string
	ways   string
	fields string
}

func table() []kindRow {
	return []kindRow{
		{1, "request", "c>n", "Client Number Op"},
		{2, "reply", "n>c", "Epoch Client Number Result"},
		{3, "read", "c>n", "Client Number Key"},
		{4, "value", "n>c", "Epoch Client Number Found"},
		{5, "wrong", "n>c", "Client Number Config"},
		{6, "lookup", "n>m c>m", "Since Attempt0"},
		{7, "config", "m>n m>c", "Config"},
		{8, "adopted", "n>m", "Epoch"},
		{9, "forward", "n>n", "Epoch Update"},
		{10, "ack", "n>n", "Epoch Seq Upto"},
		{11, "query", "n>n", "Epoch Client Number"},
		{12, "answer", "n>n", "Epoch Client Number Seq"},
		{13, "join", "n>m", "Boot"},
		{14, "begin", "m>n", "Attempt Boot Config"},
		{15, "open", "n>n", "Epoch Attempt Boot Token"},
		{16, "opened", "n>n", "Attempt Boot Token Root"},
		{17, "probe", "n>n", "Attempt Level Nodes"},
		{18, "digests", "n>n", "Attempt Level Nodes Digests"},
		{19, "want", "n>n", "Attempt Buckets"},
		{20, "chunk", "n>n", "Attempt Chunk"},
		{21, "got", "n>n", "Attempt Seq"},
		{22, "delta", "n>n", "Attempt Update"},
		{23, "caught", "n>n", "Attempt Boot Seq"},
		{24, "abort", "n>n n>m", "Attempt"},
		{25, "ready", "n>m", "Attempt Boot Seq"},
		{26, "prepare", "m>n", "Epoch Attempt Joiner"},
		{27, "prepared", "n>m", "Epoch Attempt Seq"},
		{28, "cancel", "m>n", "Epoch Attempt"},
	}
}

func known(k api.Kind) bool { return k >= 1 && k <= 28 }

// fieldsOf are a kind's fields, in the table's order.
func fieldsOf(k api.Kind) []string { return strings.Fields(table()[k-1].fields) }

func has(k api.Kind, field string) bool { return slices.Contains(fieldsOf(k), field) }

func within(v, least, most int) bool { return least <= v && v <= most }

// goes: From and To are as one of the kind's ways says.
func goes(m api.Msg) bool {
	side := func(a int) string {
		switch {
		case a == 0:
			return "m"
		case within(a, 1, 8):
			return "n"
		case within(a, 101, 116):
			return "c"
		}
		return "none"
	}
	return m.From != m.To && slices.Contains(strings.Fields(table()[m.Kind-1].ways), side(m.From)+">"+side(m.To))
}

func usersKey(s string) bool { return within(len(s), 1, 1024) && s[0] != 0 }

func rowMay(r api.Row) bool {
	return within(len(r.Key), 1, 1024) && len(r.Value) <= 65536 && within(r.Version, 1, top)
}

func opMay(o api.Op) bool {
	switch o.Kind {
	case 1:
		return usersKey(o.Key) && len(o.Value) <= 65536 && o.Version == 0
	case 2:
		return usersKey(o.Key) && o.Value == "" && o.Version == 0
	case 3:
		return usersKey(o.Key) && len(o.Value) <= 65536 && within(o.Version, 0, top)
	}
	return false
}

func updateMay(u api.Update) bool {
	return within(u.Seq, 1, top) && within(u.Client, 1, 16) && within(u.Number, 1, top) && opMay(u.Op)
}

func rising(l []int, least, most int) bool {
	for i, v := range l {
		if !within(v, 0, 4095) || i > 0 && v <= l[i-1] {
			return false
		}
	}
	return within(len(l), least, most)
}

func configMay(c api.Config) bool {
	there := map[int]bool{}
	for _, n := range c.Chain {
		if !within(n, 1, 8) || there[n] {
			return false
		}
		there[n] = true
	}
	return within(c.Epoch, 1, topEpoch) && within(len(c.Chain), 1, 8)
}

func tokenMay(m api.Msg) bool {
	t := m.Token
	if m.Kind == 16 && (t == api.Token{} || m.Seq != t.Seq) {
		return false
	}
	return t == api.Token{} || t.Transfer == m.Attempt && within(t.Seq, 0, top) && within(t.Next, 0, 1<<20+4096)
}

func chunkMay(c api.Chunk) bool {
	if !within(c.Index, 0, 1<<20+4095) || !within(len(c.Pieces), 1, 4096) {
		return false
	}
	rows, weight := 0, 0
	for i, p := range c.Pieces {
		if !within(p.Bucket, 0, 4095) || i > 0 && (p.Bucket <= c.Pieces[i-1].Bucket || !p.First) {
			return false
		}
		if i < len(c.Pieces)-1 && !p.Last || len(p.Rows) == 0 && !(p.First && p.Last) {
			return false
		}
		for j, r := range p.Rows {
			if !rowMay(r) || j > 0 && r.Key <= p.Rows[j-1].Key {
				return false
			}
			rows++
			weight += len(r.Key) + len(r.Value) + 16
		}
	}
	return weight <= 1<<18 || rows == 1
}

func foundMay(m api.Msg) bool {
	if m.Found {
		return usersKey(m.Row.Key) && rowMay(m.Row)
	}
	return usersKey(m.Row.Key) && m.Row.Value == "" && m.Row.Version == 0
}

// fieldMay: a field is as the second table says.
func fieldMay(m api.Msg, field string) bool {
	switch field {
	case "Epoch":
		return within(m.Epoch, 1, topEpoch)
	case "Since":
		return within(m.Epoch, 0, topEpoch)
	case "Attempt":
		return within(m.Attempt, 1, top)
	case "Attempt0":
		return within(m.Attempt, 0, top) && (m.From <= 100 || m.Attempt == 0)
	case "Client":
		return within(m.Client, 1, 16) && (m.From <= 100 || m.From == 100+m.Client) && (m.To <= 100 || m.To == 100+m.Client)
	case "Number", "Boot":
		return within(m.Number, 1, top)
	case "Upto":
		return within(m.Number, m.Seq, top)
	case "Joiner":
		return within(m.Number, 1, 8) && m.Number != m.To
	case "Seq":
		return within(m.Seq, 0, top)
	case "Key":
		return usersKey(m.Key)
	case "Op":
		return opMay(m.Op)
	case "Update":
		return updateMay(m.Update)
	case "Result":
		return within(int(m.Result.Code), 1, 5) && within(m.Result.Version, 0, top)
	case "Found":
		return foundMay(m)
	case "Config":
		return configMay(m.Config)
	case "Token":
		return tokenMay(m)
	case "Root":
		return len(m.Digests) == 1
	case "Level":
		return within(m.Level, 0, 3)
	case "Nodes":
		return rising(m.Buckets, 1, 64)
	case "Digests":
		return len(m.Digests) == len(m.Buckets)
	case "Buckets":
		return rising(m.Buckets, 0, 4096)
	case "Chunk":
		return chunkMay(m.Chunk)
	}
	panic(field)
}

// without is a message with a field put to zero.
func without(m api.Msg, field string) api.Msg {
	switch field {
	case "Epoch", "Since":
		m.Epoch = 0
	case "Attempt", "Attempt0":
		m.Attempt = 0
	case "Client":
		m.Client = 0
	case "Number", "Boot", "Upto", "Joiner":
		m.Number = 0
	case "Seq":
		m.Seq = 0
	case "Key":
		m.Key = ""
	case "Op":
		m.Op = api.Op{}
	case "Update":
		m.Update = api.Update{}
	case "Result":
		m.Result = api.Result{}
	case "Found":
		m.Found, m.Row = false, api.Row{}
	case "Config":
		m.Config = api.Config{}
	case "Token":
		m.Token = api.Token{}
		if m.Kind == 16 {
			m.Seq = 0
		}
	case "Root", "Digests":
		m.Digests = nil
	case "Level":
		m.Level = 0
	case "Nodes", "Buckets":
		m.Buckets = nil
	case "Chunk":
		m.Chunk = api.Chunk{}
	default:
		panic(field)
	}
	return m
}

// bare is a message whose empty lists are nil, too.
func bare(m api.Msg) api.Msg {
	if len(m.Config.Chain) == 0 {
		m.Config.Chain = nil
	}
	if len(m.Buckets) == 0 {
		m.Buckets = nil
	}
	if len(m.Digests) == 0 {
		m.Digests = nil
	}
	if len(m.Chunk.Pieces) == 0 {
		m.Chunk.Pieces = nil
	}
	return m
}

// fault is what Check must answer, by the chapter's words.
func fault(m api.Msg) api.Errno {
	if !known(m.Kind) {
		return errKind
	}
	if !goes(m) {
		return errField
	}
	rest := bare(m)
	for _, f := range fieldsOf(m.Kind) {
		if !fieldMay(m, f) {
			return errField
		}
		rest = without(rest, f)
	}
	rest.Kind, rest.From, rest.To = 0, 0, 0
	if !reflect.ValueOf(rest).IsZero() {
		return errField
	}
	return 0
}

func numbers(l ...int) []byte {
	var b []byte
	for _, v := range l {
		b = binary.AppendUvarint(b, uint64(v))
	}
	return b
}

func text(s string) []byte { return append(numbers(len(s)), s...) }

func flag(f bool) []byte {
	if f {
		return []byte{1}
	}
	return []byte{0}
}

func rowBytes(r api.Row) []byte {
	return slices.Concat(text(r.Key), text(r.Value), numbers(r.Version))
}

func listBytes(l []int) []byte { return append(numbers(len(l)), numbers(l...)...) }

func updateBytes(u api.Update) []byte {
	b := slices.Concat(numbers(u.Seq, u.Client, u.Number, int(u.Op.Kind)), text(u.Op.Key))
	if u.Op.Kind != 2 {
		b = append(b, text(u.Op.Value)...)
	}
	if u.Op.Kind == 3 {
		b = append(b, numbers(u.Op.Version)...)
	}
	return text(string(b))
}

func chunkBytes(c api.Chunk) []byte {
	b := slices.Concat(numbers(c.Index), flag(c.Last), numbers(len(c.Pieces)))
	for _, p := range c.Pieces {
		b = append(b, slices.Concat(numbers(p.Bucket), flag(p.First), flag(p.Last), numbers(len(p.Rows)))...)
		for _, r := range p.Rows {
			b = append(b, rowBytes(r)...)
		}
	}
	return b
}

// fieldBytes are a field's bytes, as the second table says.
func fieldBytes(m api.Msg, field string) []byte {
	switch field {
	case "Epoch", "Since":
		return numbers(m.Epoch)
	case "Attempt", "Attempt0":
		return numbers(m.Attempt)
	case "Client":
		return numbers(m.Client)
	case "Number", "Boot", "Upto", "Joiner":
		return numbers(m.Number)
	case "Seq":
		return numbers(m.Seq)
	case "Key":
		return text(m.Key)
	case "Op":
		return updateBytes(api.Update{Seq: 1, Client: 1, Number: 1, Op: m.Op})
	case "Update":
		return updateBytes(m.Update)
	case "Result":
		return numbers(int(m.Result.Code), m.Result.Version)
	case "Found":
		if m.Found {
			return append(flag(true), rowBytes(m.Row)...)
		}
		return append(flag(false), text(m.Row.Key)...)
	case "Config":
		return append(numbers(m.Config.Epoch), listBytes(m.Config.Chain)...)
	case "Token":
		return numbers(m.Token.Transfer, m.Token.Seq, m.Token.Next)
	case "Root", "Digests":
		var b []byte
		for _, d := range m.Digests {
			b = append(b, d[:]...)
		}
		return b
	case "Level":
		return numbers(m.Level)
	case "Nodes", "Buckets":
		return listBytes(m.Buckets)
	case "Chunk":
		return chunkBytes(m.Chunk)
	}
	panic(field)
}

// body is a message's body, by the chapter's words.
func body(m api.Msg) []byte {
	b := numbers(m.From, m.To)
	for _, f := range fieldsOf(m.Kind) {
		b = append(b, fieldBytes(m, f)...)
	}
	return b
}

// framed is a body in a frame.
func framed(t testing.TB, k api.Kind, body []byte) []byte {
	t.Helper()
	b, e := frame.Encode(api.Frame{Type: int(k), Body: body})
	if e != 0 {
		t.Fatalf("frame: %d", e)
	}
	return b
}

// clone shares no list with what it is made of.
func clone(m api.Msg) api.Msg {
	m.Config.Chain = slices.Clone(m.Config.Chain)
	m.Buckets = slices.Clone(m.Buckets)
	m.Digests = slices.Clone(m.Digests)
	m.Chunk.Pieces = slices.Clone(m.Chunk.Pieces)
	for i, p := range m.Chunk.Pieces {
		m.Chunk.Pieces[i].Rows = slices.Clone(p.Rows)
	}
	return m
}

// same holds two messages against each other by all that they have, their empty lists being nil or not.
func same(a, b api.Msg) bool {
	norm := func(m api.Msg) api.Msg {
		m = bare(clone(m))
		for i, p := range m.Chunk.Pieces {
			if len(p.Rows) == 0 {
				m.Chunk.Pieces[i].Rows = nil
			}
		}
		return m
	}
	return reflect.DeepEqual(norm(a), norm(b))
}

// brief tells a message, as far as a line goes.
func brief(m api.Msg) string { return fmt.Sprintf("%.400s", fmt.Sprintf("%+v", m)) }

// is holds all calls against the chapter's words for one message.
func is(t *testing.T, m api.Msg) {
	t.Helper()
	want := fault(m)
	if e := message.Check(m); e != want {
		t.Fatalf("Check(%s): %d, want %d", brief(m), e, want)
	}
	b, e := message.Encode(m)
	line, f := message.Text(m)
	if e != want || f != want {
		t.Fatalf("Encode, Text(%s): %d, %d, want %d", brief(m), e, f, want)
	}
	if want != 0 {
		if len(b) != 0 || line != "" {
			t.Fatalf("Encode, Text(%s): %d bytes, %q beside an error", brief(m), len(b), line)
		}
		return
	}
	if string(b) != string(framed(t, m.Kind, body(m))) {
		t.Fatalf("Encode(%s): %.100x, want a body %.100x", brief(m), b, body(m))
	}
	got, e := message.Decode(b)
	if e != 0 || !same(got, m) || !message.Alike(got, m) {
		t.Fatalf("Decode of Encode(%s): %s, %d", brief(m), brief(got), e)
	}
}

// refused: bytes are no message.
func refused(t *testing.T, why string, b []byte) {
	t.Helper()
	if m, e := message.Decode(b); e != errForm || !reflect.ValueOf(m).IsZero() {
		t.Fatalf("%s: Decode(%.80x): %s, %d", why, b, brief(m), e)
	}
}

// oneForm: bytes are no message, or just those of the message that is read.
func oneForm(t *testing.T, b []byte) {
	t.Helper()
	m, e := message.Decode(b)
	if e == errForm {
		if !reflect.ValueOf(m).IsZero() {
			t.Fatalf("Decode(%.80x): %s beside an error", b, brief(m))
		}
		return
	}
	if e != 0 || fault(m) != 0 || message.Check(m) != 0 {
		t.Fatalf("Decode(%.80x): %s, %d, which may not be", b, brief(m), e)
	}
	if again, e := message.Encode(m); e != 0 || string(again) != string(b) {
		t.Fatalf("Decode(%.80x): %s, which is %.80x, %d", b, brief(m), again, e)
	}
}

package image_test

import (
	"encoding/binary"
	"fmt"
	"hash/crc32"
	"math/rand"
	"slices"
	"strings"
	"testing"

	"hawser/api"
	"hawser/image"
)

// The chapter's words written out plainly, with the library's sum; nothing of it is shared with the program.

const (
	top      = 1 << 60
	maxRows  = 1 << 20
	maxImage = 1 << 28
)

var castagnoli = crc32.MakeTable(crc32.Castagnoli)

// sealed is bytes and their sum behind them.
func sealed(b string) []byte {
	return binary.LittleEndian.AppendUint32([]byte(b), crc32.Checksum([]byte(b), castagnoli))
}

// number is a number as chapter 1 writes it.
func number(v int) string {
	var b []byte
	for ; v >= 128; v /= 128 {
		b = append(b, byte(v%128)+128)
	}
	return string(append(b, byte(v)))
}

func text(s string) string { return number(len(s)) + s }

func rowForm(r api.Row) string { return text(r.Key) + text(r.Value) + number(r.Version) }

// parts are what stands in an image ahead of the sum: the mark, Seq, the count, each row.
func parts(s api.State) []string {
	l := []string{"hwi1", number(s.Seq), number(len(s.Rows))}
	for _, r := range s.Rows {
		l = append(l, rowForm(r))
	}
	return l
}

func form(s api.State) []byte { return sealed(strings.Join(parts(s), "")) }

// sizeOf is how many bytes form has, without making them.
func sizeOf(s api.State) int {
	n := 4 + len(number(s.Seq)) + len(number(len(s.Rows))) + 4
	for _, r := range s.Rows {
		n += rowSize(r)
	}
	return n
}

func rowSize(r api.Row) int {
	return len(number(len(r.Key))) + len(r.Key) + len(number(len(r.Value))) + len(r.Value) + len(number(r.Version))
}

// fault is what the chapter says of a state, one fault behind the other.
func fault(s api.State) api.Errno {
	if len(s.Rows) > maxRows {
		return 90
	}
	if s.Seq < 0 || s.Seq > top {
		return 91
	}
	for i, r := range s.Rows {
		if len(r.Key) == 0 || len(r.Key) > 1024 || len(r.Value) > 65536 || r.Version < 1 || r.Version > s.Seq {
			return 91
		}
		if i > 0 && r.Key <= s.Rows[i-1].Key {
			return 91
		}
	}
	if sizeOf(s) > maxImage {
		return 90
	}
	return 0
}

// heard is what a stream comes to: its rows and its error so far, and whether it has come to its end.
type heard struct {
	rows []api.Row
	err  api.Errno
	seq  int
	done bool
}

// ear goes through a stream; what is not there yet ends it without an error.
type ear struct {
	heard
	b   []byte
	at  int
	ahd string
}

type enough struct{}

func (e *ear) waits(holds bool) {
	if !holds {
		panic(enough{})
	}
}

func (e *ear) wrong(is bool, err api.Errno) {
	if is {
		e.err = err
		panic(enough{})
	}
}

// number: by the place of the first byte below 128.
func (e *ear) number(most int) int {
	b := e.b[e.at:]
	k := 1 + slices.IndexFunc(b, func(c byte) bool { return c < 128 })
	e.waits(k > 0 || len(b) >= 10)
	e.wrong(k == 0 || k > 10 || k == 10 && b[9] > 1 || k > 1 && b[k-1] == 0, 92)
	var v uint64
	for i := k - 1; i >= 0; i-- {
		v = v<<7 + uint64(b[i]&127)
	}
	e.wrong(v > uint64(most), 92)
	e.at += k
	return int(v)
}

func (e *ear) text(most int) string {
	n := e.number(most)
	e.waits(len(e.b)-e.at >= n)
	e.at += n
	return string(e.b[e.at-n : e.at])
}

func (e *ear) row() {
	r := api.Row{Key: e.text(1024), Value: e.text(65536), Version: e.number(top)}
	e.wrong(r.Key == "" || r.Version == 0, 92)
	e.wrong(r.Key <= e.ahd || r.Version > e.seq, 92)
	e.rows = append(e.rows, r)
	e.ahd = r.Key
}

func (e *ear) all() {
	defer func() {
		if x := recover(); x != nil && x != (enough{}) {
			panic(x)
		}
	}()
	for i, c := range []byte("hwi1") {
		e.waits(len(e.b) > i)
		e.wrong(e.b[i] != c, 92)
	}
	e.at = 4
	e.seq = e.number(top)
	for range e.number(maxRows) {
		e.row()
	}
	e.waits(len(e.b)-e.at >= 4)
	e.wrong(crc32.Checksum(e.b[:e.at], castagnoli) != binary.LittleEndian.Uint32(e.b[e.at:]), 93)
	e.done = true
	e.wrong(len(e.b) > e.at+4, 92)
}

// hear is what a stream comes to by all of these bytes.
func hear(b []byte) heard {
	e := &ear{b: b[:min(len(b), maxImage)]}
	e.all()
	if e.err == 0 && len(b) > maxImage {
		e.err = 90
	}
	return e.heard
}

// read is what the chapter says of bytes at once.
func read(b []byte) (api.State, api.Errno) {
	if len(b) > maxImage {
		return api.State{}, 90
	}
	if len(b) < 10 || string(b[:4]) != "hwi1" {
		return api.State{}, 92
	}
	if crc32.Checksum(b[:len(b)-4], castagnoli) != binary.LittleEndian.Uint32(b[len(b)-4:]) {
		return api.State{}, 93
	}
	if h := hear(b); h.err == 0 && h.done {
		return api.State{Seq: h.seq, Rows: h.rows}, 0
	}
	return api.State{}, 92
}

func same(a, b api.State) bool { return a.Seq == b.Seq && slices.Equal(a.Rows, b.Rows) }

// show tells a state, its texts only as far as their beginnings.
func show(s api.State) string {
	l := []string{}
	for i, r := range s.Rows {
		if i == 8 {
			l = append(l, fmt.Sprintf("and %d more", len(s.Rows)-i))
			break
		}
		l = append(l, fmt.Sprintf("%.20q of %d: %.20q of %d, %d", r.Key, len(r.Key), r.Value, len(r.Value), r.Version))
	}
	return fmt.Sprintf("%d {%s}", s.Seq, strings.Join(l, "; "))
}

func long(n int) string { return strings.Repeat("k", n) }

func state(seq int, rows ...api.Row) api.State { return api.State{Seq: seq, Rows: rows} }

func row(key, value string, version int) api.Row {
	return api.Row{Key: key, Value: value, Version: version}
}

// example is the chapter's second one.
func example() api.State { return state(7, row("k", "v", 5)) }

// many are n rows of versions from 1 on.
func many(n int) []api.Row {
	l := make([]api.Row, n)
	for i := range l {
		l[i] = row(fmt.Sprintf("k%07d", i), "", i+1)
	}
	return l
}

// samples are states that may be: without rows, with one, with some; of the least and the greatest parts.
func samples() []api.State {
	return []api.State{
		{},
		state(1),
		state(127), state(128), state(16383), state(16384), state(top - 1), state(top),
		example(),
		state(1, row("\x00", "", 1)),
		state(top, row("\xff", "\x80\x00", top)),
		state(300, row("\x00s\x01", "\x01\x01\x05", 5), row("a", "x", 1), row("a\x00", "", 300), row("ab", "y", 128), row("b", "", 127)),
		state(top, row(long(128), long(127), top), row(long(129), long(128), 1)),
		state(top, row("a", long(16383), top-1), row("b", long(16384), top), row("c", long(300), 1<<42)),
		state(70000, many(130)...),
		state(9, row(long(1023), long(65535), 9), row(long(1024), long(65536), 9)),
	}
}

// small are those samples that have few bytes.
func small() []api.State {
	return slices.DeleteFunc(samples(), func(s api.State) bool { return sizeOf(s) > 600 })
}

// anything makes a state that may be.
func anything(r *rand.Rand) api.State {
	s := state(r.Intn(1 << (1 + r.Intn(60))))
	keys := map[string]bool{}
	for range r.Intn(1 << r.Intn(6)) {
		b := make([]byte, 1+r.Intn(1<<r.Intn(9)))
		r.Read(b)
		keys[string(b)] = true
	}
	for k := range keys {
		b := make([]byte, r.Intn(1<<r.Intn(10)))
		r.Read(b)
		if s.Seq > 0 {
			s.Rows = append(s.Rows, row(k, string(b), 1+r.Intn(1+r.Intn(s.Seq))))
		}
	}
	slices.SortFunc(s.Rows, func(a, b api.Row) int { return strings.Compare(a.Key, b.Key) })
	return s
}

// decodes holds Decode of some bytes against the chapter's words.
func decodes(t *testing.T, why string, b []byte) api.Errno {
	t.Helper()
	want, e := read(b)
	got, err := image.Decode(b)
	if err != e || !same(got, want) {
		t.Fatalf("%s: Decode(%.40x, of %d): %s, %d, want %s, %d", why, b, len(b), show(got), err, show(want), e)
	}
	return e
}

// refused is decodes of bytes that must answer this error.
func refused(t *testing.T, why string, b []byte, want api.Errno) {
	t.Helper()
	if e := decodes(t, why, b); e != want {
		t.Fatalf("%s: Decode(%.40x, of %d): %d, want %d", why, b, len(b), e, want)
	}
}

package disk_test

import (
	"fmt"
	"maps"
	"math"
	"math/rand"
	"slices"
	"strings"
	"testing"

	"hawser/api"
	"hawser/disk"
)

// The errors by their numbers, as the chapter has them.
const (
	errArg   api.Errno = 1
	errMade  api.Errno = 2
	errName  api.Errno = 120
	errNone  api.Errno = 121
	errThere api.Errno = 122
	errRoom  api.Errno = 123
	errFail  api.Errno = 124
	errDown  api.Errno = 125
)

const maxDisk = 67108864

// state is files' bytes by their names.
type state map[string]string

// with is a state of its own in which one thing is otherwise.
func (s state) with(change func(state)) state {
	s = maps.Clone(s)
	change(s)
	return s
}

func (s state) taken() int {
	sum := 0
	for name, data := range s {
		sum += len(name) + len(data)
	}
	return sum
}

func (s state) String() string {
	var b strings.Builder
	for _, name := range slices.Sorted(maps.Keys(s)) {
		fmt.Fprintf(&b, "%s:%q ", name, s[name])
	}
	return b.String()
}

// model is the chapter, taken by its words: the files that last, behind them those behind each step, up to those that are seen.
type model struct {
	room   int
	states []state
	acts   int
	fail   int
	down   bool
}

func modelOf(room int, files ...api.File) *model {
	s := state{}
	for _, f := range files {
		s[f.Name] = string(f.Data)
	}
	return &model{room: room, states: []state{s}}
}

func (m *model) seen() state { return m.states[len(m.states)-1] }

func (m *model) pending() int { return len(m.states) - 1 }

func (m *model) left(keep int) state { return m.states[max(0, min(keep, m.pending()))] }

func mayBeName(s string) bool {
	for i := range len(s) {
		if strings.IndexByte("abcdefghijklmnopqrstuvwxyz0123456789.-_", s[i]) < 0 {
			return false
		}
	}
	return len(s) >= 1 && len(s) <= 60
}

// op is a call that changes something.
type op struct {
	what string
	a, b string
	n    int
}

func (o op) String() string { return fmt.Sprintf("%s(%.70q, %.70q, %d)", o.what, o.a, o.b, o.n) }

func create(name string) op       { return op{what: "create", a: name} }
func extend(name, data string) op { return op{what: "append", a: name, b: data} }
func cut(name string, n int) op   { return op{what: "cut", a: name, n: n} }
func rename(from, to string) op   { return op{what: "rename", a: from, b: to} }
func remove(name string) op       { return op{what: "remove", a: name} }
func sync() op                    { return op{what: "sync"} }
func fail(n int) op               { return op{what: "fail", n: n} }
func crash(keep int) op           { return op{what: "crash", n: keep} }
func start() op                   { return op{what: "start"} }

func (o op) on(d *disk.Disk) api.Errno {
	switch o.what {
	case "create":
		return d.Create(o.a)
	case "append":
		return d.Append(o.a, []byte(o.b))
	case "cut":
		return d.Cut(o.a, o.n)
	case "rename":
		return d.Rename(o.a, o.b)
	case "remove":
		return d.Remove(o.a)
	case "sync":
		return d.Sync()
	case "fail":
		d.Fail(o.n)
	case "crash":
		d.Crash(o.n)
	case "start":
		d.Start()
	}
	return 0
}

// do does a call on the model, and answers what the chapter asks for.
func (m *model) do(o op) api.Errno {
	switch o.what {
	case "fail":
		if !m.down {
			m.fail = max(o.n, 0)
		}
		return 0
	case "crash":
		if !m.down {
			m.states, m.fail, m.down = []state{m.left(o.n)}, 0, true
		}
		return 0
	case "start":
		m.down = false
		return 0
	}
	if m.down {
		return errDown
	}
	steps, e := m.act(o)
	if e != 0 {
		return e
	}
	m.acts++
	if m.fail > 0 {
		m.fail--
		if m.fail == 0 {
			return errFail
		}
	}
	if o.what == "sync" {
		m.states = []state{m.seen()}
	}
	m.states = append(m.states, steps...)
	return 0
}

// act is an act's own error, or the files behind each of its steps.
func (m *model) act(o op) ([]state, api.Errno) {
	if o.what == "sync" {
		return nil, 0
	}
	seen := m.seen()
	data, there := seen[o.a]
	var steps []state
	switch {
	case !mayBeName(o.a), o.what == "rename" && !mayBeName(o.b):
		return nil, errName
	case o.what == "create" && there:
		return nil, errThere
	case o.what != "create" && !there:
		return nil, errNone
	case o.what == "cut" && (o.n < 0 || o.n > len(data)):
		return nil, errArg
	}
	switch o.what {
	case "create":
		steps = []state{seen.with(func(s state) { s[o.a] = "" })}
	case "append":
		for i := range len(o.b) {
			steps = append(steps, seen.with(func(s state) { s[o.a] = data + o.b[:i+1] }))
		}
	case "cut":
		steps = []state{seen.with(func(s state) { s[o.a] = data[:o.n] })}
	case "rename":
		steps = []state{seen.with(func(s state) {
			delete(s, o.a)
			s[o.b] = data
		})}
	case "remove":
		steps = []state{seen.with(func(s state) { delete(s, o.a) })}
	}
	if len(steps) > 0 && steps[len(steps)-1].taken() > m.room {
		return nil, errRoom
	}
	return steps, 0
}

func made(t *testing.T, room int, files ...api.File) *disk.Disk {
	t.Helper()
	d, e := disk.New(room, files...)
	if e != 0 || d == nil {
		t.Fatalf("New(%d, ..): %d", room, e)
	}
	return d
}

func file(name, data string) api.File { return api.File{Name: name, Data: []byte(data)} }

func text(l []api.File) string {
	var b strings.Builder
	for _, f := range l {
		fmt.Fprintf(&b, "%s:%q ", f.Name, f.Data)
	}
	return b.String()
}

// same: these files are just those of a state, by rising names.
func same(t *testing.T, what string, l []api.File, s state) {
	t.Helper()
	if got := text(l); got != s.String() {
		t.Fatalf("%s: %.300s, want %.300s", what, got, s)
	}
}

// tells: a disk tells of itself what a model tells.
func tells(t *testing.T, d *disk.Disk, m *model) {
	t.Helper()
	shows(t, d, m)
	if d.Acts() != m.acts || d.Pending() != m.pending() {
		t.Fatalf("Acts, Pending: %d, %d, want %d, %d", d.Acts(), d.Pending(), m.acts, m.pending())
	}
	for k := -1; k <= m.pending()+1; k++ {
		same(t, fmt.Sprintf("Left(%d)", k), d.Left(k), m.left(k))
	}
	same(t, "Left of the least", d.Left(math.MinInt), m.left(-1))
	same(t, "Left of the greatest", d.Left(math.MaxInt), m.seen())
}

// shows: what tells holds, but for Acts, Pending and Left.
func shows(t *testing.T, d *disk.Disk, m *model) {
	t.Helper()
	same(t, "Files", d.Files(), m.seen())
	if names := d.Names(); !slices.Equal(names, slices.Sorted(maps.Keys(m.seen()))) {
		t.Fatalf("Names: %q of %s", names, m.seen())
	}
	if d.Free() != m.room-m.seen().taken() || d.Down() != m.down {
		t.Fatalf("Free, Down: %d, %v, want %d, %v", d.Free(), d.Down(), m.room-m.seen().taken(), m.down)
	}
	for _, name := range slices.Concat(pool, slices.Collect(maps.Keys(m.seen()))) {
		reads(t, d, m, name)
	}
}

// reads: Read and Size of one name.
func reads(t *testing.T, d *disk.Disk, m *model, name string) {
	t.Helper()
	data, there := m.seen()[name]
	want := api.Errno(0)
	switch {
	case m.down:
		want, data = errDown, ""
	case !mayBeName(name):
		want = errName
	case !there:
		want = errNone
	}
	if b, e := d.Read(name); e != want || string(b) != data {
		t.Fatalf("Read(%.70q): %.70q, %d, want %.70q, %d", name, b, e, data, want)
	}
	if n, e := d.Size(name); e != want || n != len(data) {
		t.Fatalf("Size(%.70q): %d, %d, want %d, %d", name, n, e, len(data), want)
	}
}

// plays: each call is answered as the model answers it, and leaves what the model has then.
func plays(t *testing.T, d *disk.Disk, m *model, ops ...op) {
	t.Helper()
	for _, o := range ops {
		if e, want := o.on(d), m.do(o); e != want {
			t.Fatalf("%v: %d, want %d", o, e, want)
		}
		tells(t, d, m)
	}
}

// answers: a call is answered so, by the model too.
func answers(t *testing.T, d *disk.Disk, m *model, o op, want api.Errno) {
	t.Helper()
	if e := o.on(d); e != want {
		t.Fatalf("%v: %d, want %d", o, e, want)
	}
	if e := m.do(o); e != want {
		t.Fatalf("%v: the model has %d, want %d", o, e, want)
	}
	tells(t, d, m)
}

// pool has the names that the random calls take, some of which are none.
var pool = []string{"a", "b", "wal", "wal.new", "x-1_y", strings.Repeat("n", 60), "A", "", "a b", strings.Repeat("n", 61)}

func someName(r *rand.Rand) string {
	if r.Intn(12) == 0 {
		return pool[r.Intn(len(pool))]
	}
	return pool[r.Intn(5)]
}

func someBytes(r *rand.Rand) string {
	b := make([]byte, r.Intn(9)*r.Intn(2)+r.Intn(3))
	r.Read(b)
	return string(b)
}

// someAct is one of the six calls that may be acts.
func someAct(r *rand.Rand) op {
	switch r.Intn(12) {
	case 0, 1, 2:
		return create(someName(r))
	case 3, 4, 5, 6:
		return extend(someName(r), someBytes(r))
	case 7:
		return cut(someName(r), r.Intn(9)-1)
	case 8, 9:
		return rename(someName(r), someName(r))
	case 10:
		return remove(someName(r))
	}
	return sync()
}

// someOp is any call that changes something.
func someOp(r *rand.Rand) op {
	switch r.Intn(24) {
	case 0, 1:
		return start()
	case 2:
		return crash(r.Intn(20) - 2)
	case 3:
		return fail(r.Intn(6) - 1)
	}
	return someAct(r)
}

func some(n int, one func() op) []op {
	l := make([]op, n)
	for i := range l {
		l[i] = one()
	}
	return l
}

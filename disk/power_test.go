package disk_test

import (
	"math"
	"math/rand"
	"testing"

	"hawser/api"
)

// valid are calls of all six kinds that are acts, on a disk of roomFor with the file a.
func valid() []op {
	return []op{create("b"), extend("a", "xy"), extend("a", ""), cut("a", 1), cut("a", 3), rename("a", "c"), rename("a", "a"), remove("a"), sync()}
}

// refused are calls that are none, on that disk.
func refused() []op {
	return []op{create("a"), create("A"), create("much.too.long.for.it"), extend("none", ""), extend("a", "more than there is"), extend("A", "x"), cut("a", 4), cut("none", 0), rename("none", "a"), rename("a", "A"), rename("a", "much.too.long.for.it"), remove("none"), remove("")}
}

const roomFor = 10

// P12.8: an act that fails does nothing, and the one behind it does not fail.
func TestEachActFails(t *testing.T) {
	for _, o := range valid() {
		d, m := made(t, roomFor, file("a", "xyz")), modelOf(roomFor, file("a", "xyz"))
		answers(t, d, m, extend("a", "w"), 0)
		before := d.Acts()
		answers(t, d, m, fail(1), 0)
		answers(t, d, m, o, errFail)
		same(t, "Files", d.Files(), state{"a": "xyzw"})
		same(t, "Left(0)", d.Left(0), state{"a": "xyz"})
		if d.Acts() != before+1 || d.Pending() != 1 || d.Free() != 5 {
			t.Errorf("%v: Acts, Pending, Free: %d, %d, %d", o, d.Acts(), d.Pending(), d.Free())
		}
		answers(t, d, m, o, 0)
		answers(t, d, m, sync(), 0)
	}
}

// Calls that answer another error, and looking, are no acts: the failure waits.
func TestNoActs(t *testing.T) {
	d, m := made(t, roomFor, file("a", "xyz")), modelOf(roomFor, file("a", "xyz"))
	answers(t, d, m, fail(1), 0)
	for _, o := range refused() {
		if e := o.on(d); e == 0 || e == errFail || m.do(o) != e {
			t.Errorf("%v: %d", o, e)
		}
	}
	d.Read("a")
	d.Size("a")
	tells(t, d, m)
	if d.Acts() != 0 {
		t.Error("Acts:", d.Acts())
	}
	answers(t, d, m, start(), 0)
	answers(t, d, m, cut("a", 3), errFail)
	answers(t, d, m, cut("a", 3), 0)
	if d.Acts() != 2 {
		t.Error("Acts:", d.Acts())
	}
}

// The n-th act fails, and no other one.
func TestWhichActFails(t *testing.T) {
	for n := -2; n < 8; n++ {
		d, m := made(t, roomFor, file("a", "")), modelOf(roomFor, file("a", ""))
		answers(t, d, m, fail(n), 0)
		for i := 1; i < 10; i++ {
			want := api.Errno(0)
			if i == n {
				want = errFail
			}
			answers(t, d, m, create("A"), errName)
			answers(t, d, m, []op{sync(), rename("a", "a"), extend("a", "")}[i%3], want)
		}
	}
}

// A later Fail takes the place of an earlier one; one below 1 takes it away.
func TestLaterFail(t *testing.T) {
	for _, c := range []struct {
		ops  []op
		fail int // which of the acts behind them fails
	}{
		{[]op{fail(1), fail(3)}, 3},
		{[]op{fail(3), fail(1)}, 1},
		{[]op{fail(2), sync(), fail(2)}, 2},
		{[]op{fail(3), sync(), fail(3)}, 3},
		{[]op{fail(1), fail(0)}, 0},
		{[]op{fail(1), fail(-1)}, 0},
		{[]op{fail(4), fail(math.MinInt)}, 0},
		{[]op{fail(0), fail(1)}, 1},
		{[]op{fail(1), sync(), fail(1)}, 1},
		{[]op{fail(1), sync(), sync()}, 0},
		{[]op{fail(math.MaxInt)}, 0},
		{[]op{fail(1), fail(math.MaxInt)}, 0},
		{[]op{fail(1), crash(0), start()}, 0},
		{[]op{fail(2), crash(-5), start()}, 0},
		{[]op{crash(0), fail(1), start()}, 0},
		{[]op{fail(1), crash(0), fail(1), start()}, 0},
		{[]op{crash(0), start(), fail(1)}, 1},
		{[]op{fail(2), start()}, 2},
		{[]op{fail(1), crash(0), fail(0), start(), fail(2)}, 2},
	} {
		d, m := made(t, roomFor, file("a", "xyz")), modelOf(roomFor, file("a", "xyz"))
		plays(t, d, m, c.ops...)
		for i := 1; i < 7; i++ {
			want := api.Errno(0)
			if i == c.fail {
				want = errFail
			}
			answers(t, d, m, rename("a", "a"), want)
		}
	}
}

// P12.9: what each call does when the power is off, and when it is on again.
func TestPower(t *testing.T) {
	for _, o := range append(valid(), refused()...) {
		d, m := made(t, roomFor, file("a", "xyz")), modelOf(roomFor, file("a", "xyz"))
		answers(t, d, m, extend("a", "w"), 0)
		answers(t, d, m, start(), 0) // it is on already: the steps stay
		if d.Pending() != 1 || d.Down() {
			t.Fatal("Start when the power is on")
		}
		plays(t, d, m, crash(0))
		answers(t, d, m, o, errDown)
		if d.Acts() != 1 {
			t.Error("what is refused for the power is no act")
		}
		same(t, "Files", d.Files(), state{"a": "xyz"})
		plays(t, d, m, crash(1), crash(99), fail(1), start(), o, sync(), start(), crash(0), crash(1), start(), start(), o)
	}
}

// The number of acts goes on behind a crash.
func TestActsGoOn(t *testing.T) {
	d := made(t, roomFor)
	d.Create("a")
	d.Fail(1)
	d.Sync()
	d.Crash(9)
	if d.Acts() != 2 {
		t.Error("Acts:", d.Acts())
	}
	d.Start()
	if d.Remove("a"); d.Acts() != 3 {
		t.Error("Acts:", d.Acts())
	}
}

// P12.9, P12.11, P12.12: any acts, then a crash at every step, and what is done behind it.
func TestCrashAtEveryStep(t *testing.T) {
	for seed := range 120 {
		r := rand.New(rand.NewSource(int64(1000 + seed)))
		room := []int{10, 30, 200}[seed%3]
		before, behind := some(14, func() op { return someAct(r) }), some(8, func() op { return someAct(r) })
		first := modelOf(room)
		for _, o := range before {
			first.do(o)
		}
		for keep := -1; keep <= first.pending()+2; keep++ {
			d, m := made(t, room), modelOf(room)
			for _, o := range before {
				o.on(d)
				m.do(o)
			}
			left := m.left(keep)
			same(t, "Left", d.Left(keep), left)
			d.Crash(keep)
			m.do(crash(keep))
			same(t, "Files behind the crash", d.Files(), left)
			same(t, "Left(0) behind the crash", d.Left(0), left)
			tells(t, d, m)
			plays(t, d, m, start())
			plays(t, d, m, behind...)
		}
	}
}

// P12.11 by what can be seen alone: a crash leaves files that were seen at the last Sync or later, or a beginning of an Append's bytes.
func TestWhatLasts(t *testing.T) {
	for seed := range 200 {
		r := rand.New(rand.NewSource(int64(5000 + seed)))
		d := made(t, 60)
		may := map[string]int{"": 1}
		for range 25 {
			o := someAct(r)
			old := d.Files()
			if o.on(d) != 0 {
				continue
			}
			if o.what == "sync" {
				clear(may)
			}
			may[text(d.Files())] = 1
			for n := range len(o.b) {
				if o.what == "append" {
					part := made(t, 60, old...)
					part.Append(o.a, []byte(o.b[:n]))
					may[text(part.Files())] = 1
				}
			}
		}
		l := 0
		for keep := 0; keep <= d.Pending(); keep++ {
			if may[text(d.Left(keep))] == 0 {
				t.Fatalf("Left(%d) was never seen: %v", keep, d.Left(keep))
			}
			l++
		}
		if l < len(may) {
			t.Fatalf("%d moments, of which %d may be left", len(may), l)
		}
		d.Crash(r.Intn(d.Pending() + 1))
		if may[text(d.Files())] == 0 {
			t.Fatal("a crash leaves what was never seen")
		}
	}
}

// Behind Sync and nothing more a crash leaves just what was seen, whatever it keeps.
func TestSyncedLasts(t *testing.T) {
	for seed := range 60 {
		r := rand.New(rand.NewSource(int64(seed)))
		ops := some(12, func() op { return someAct(r) })
		for _, keep := range []int{math.MinInt, -1, 0, 1, 5, math.MaxInt} {
			d, m := made(t, 80), modelOf(80)
			for _, o := range ops {
				o.on(d)
				m.do(o)
			}
			plays(t, d, m, sync())
			seen := m.seen()
			plays(t, d, m, extend("none.such", "x"), crash(keep))
			same(t, "Files", d.Files(), seen)
			plays(t, d, m, start())
		}
	}
}

// P12.13: a disk of New with another one's room and files tells the same, through any calls.
func TestTwin(t *testing.T) {
	for seed := range 150 {
		r := rand.New(rand.NewSource(int64(9000 + seed)))
		room := []int{10, 40, 130}[seed%3]
		d, m := made(t, room), modelOf(room)
		plays(t, d, m, some(20, func() op { return someOp(r) })...)
		plays(t, d, m, start(), fail(0))
		twin := made(t, room, d.Files()...)
		other := &model{room: room, states: []state{m.seen()}}
		tells(t, twin, other)
		steps := d.Pending() // ahead of the twin's: what a crash leaves is the same if it keeps these at least
		for range 30 {
			o := someOp(r)
			onTwin := o
			if o.what == "crash" {
				o.n = max(o.n, 0) + steps
			}
			e := o.on(d)
			if want := onTwin.on(twin); e != want {
				t.Fatalf("%v: %d, %d", o, e, want)
			}
			m.do(o)
			other.do(onTwin)
			if d.Pending() == 0 {
				steps = 0
			}
			shows(t, d, m)
			shows(t, twin, other)
			shows(t, twin, &model{room: room, states: m.states, down: m.down})
		}
	}
}

package disk_test

import (
	"math"
	"math/rand"
	"strings"
	"testing"
)

// The chapter's examples.
func TestExamples(t *testing.T) {
	d, m := made(t, 10), modelOf(10)
	answers(t, d, m, create("a"), 0)
	if d.Free() != 9 {
		t.Error("Free:", d.Free())
	}
	answers(t, d, m, extend("a", "xyz"), 0)
	if d.Pending() != 4 {
		t.Error("Pending:", d.Pending())
	}
	for keep, want := range map[int]state{0: {}, 1: {"a": ""}, 3: {"a": "xy"}, 9: {"a": "xyz"}} {
		same(t, "Left", d.Left(keep), want)
	}
	plays(t, d, m, sync(), extend("a", "w"), crash(0))
	same(t, "Files", d.Files(), state{"a": "xyz"})
	if _, e := d.Read("a"); e != errDown || !d.Down() {
		t.Error("Read:", e)
	}
	plays(t, d, m, start(), create("t"), extend("t", "new"), rename("t", "a"))
	if d.Free() != 6 {
		t.Error("Free:", d.Free())
	}
	for keep, want := range map[int]state{0: {"a": "xyz"}, 4: {"a": "xyz", "t": "new"}, 5: {"a": "new"}} {
		same(t, "Left", d.Left(keep), want)
	}
	answers(t, d, m, create("A"), errName)
	answers(t, d, m, create(""), errName)
	answers(t, d, m, create("a"), errThere)
	answers(t, d, m, extend("b", ""), errNone)
	answers(t, d, m, extend("a", "1234567"), errRoom)
	answers(t, d, m, cut("a", 4), errArg)
	answers(t, d, m, cut("a", 1), 0)
	answers(t, d, m, fail(2), 0)
	answers(t, d, m, create("a"), errThere)
	answers(t, d, m, sync(), 0)
	answers(t, d, m, sync(), errFail)
	answers(t, d, m, sync(), 0)
}

// P12.2: just as much room as the name needs, and one byte less.
func TestCreate(t *testing.T) {
	for _, n := range []int{1, 2, 59, 60} {
		name := strings.Repeat("c", n)
		d, m := made(t, 10+n, file("old", "123456")), modelOf(10+n, file("old", "123456"))
		answers(t, d, m, extend("old", "78"), 0)
		answers(t, d, m, create(name), errRoom)
		answers(t, d, m, create("old"), errThere)
		answers(t, d, m, create("old "), errName)
		answers(t, d, m, cut("old", 7), 0)
		answers(t, d, m, create(name), 0)
		answers(t, d, m, create(name), errThere)
		answers(t, d, m, create("d"), errRoom)
		plays(t, d, m, remove(name), create(name), crash(3), start(), create("d"))
	}
	d, m := made(t, 0), modelOf(0)
	answers(t, d, m, create("a"), errRoom)
	answers(t, d, m, create("A"), errName)
	answers(t, d, m, sync(), 0)
}

// P12.3: just as many bytes as are free, one more, and none.
func TestAppend(t *testing.T) {
	for free := range 5 {
		files := []string{"a", strings.Repeat("f", 60)}
		d, m := made(t, 64+free, file(files[0], "xy"), file(files[1], "z")), modelOf(64+free, file(files[0], "xy"), file(files[1], "z"))
		for _, name := range files {
			answers(t, d, m, extend(name, strings.Repeat("+", free+1)), errRoom)
			answers(t, d, m, extend(name, ""), 0)
			if d.Pending() != 0 {
				t.Fatal("no bytes make a step")
			}
		}
		answers(t, d, m, extend("none", strings.Repeat("+", free+1)), errNone)
		answers(t, d, m, extend("none", ""), errNone)
		answers(t, d, m, extend("No", strings.Repeat("+", free+1)), errName)
		answers(t, d, m, extend("a", strings.Repeat("+", free)), 0)
		answers(t, d, m, extend("a", "+"), errRoom)
		answers(t, d, m, extend("a", ""), 0)
		answers(t, d, m, cut("a", 1), 0)
		answers(t, d, m, extend(files[1], strings.Repeat("-", free+2)), errRoom)
		answers(t, d, m, extend(files[1], strings.Repeat("-", free+1)), 0)
	}
}

// P12.4: sizes below 0, 0, within, the file's own and above.
func TestCut(t *testing.T) {
	for size := range 4 {
		for n := -2; n < size+3; n++ {
			d, m := made(t, 20, file("a", "xyz"[:size]), file("b", "12345")), modelOf(20, file("a", "xyz"[:size]), file("b", "12345"))
			if n < 0 || n > size {
				answers(t, d, m, cut("a", n), errArg)
				continue
			}
			answers(t, d, m, cut("a", n), 0)
			plays(t, d, m, extend("a", "new"), cut("a", n), cut("a", n+1), cut("a", n), sync(), cut("a", 0), extend("a", "other"), crash(4))
		}
	}
	d, m := made(t, 20, file("a", "xyz")), modelOf(20, file("a", "xyz"))
	for _, n := range []int{math.MinInt, -1, 4, math.MaxInt} {
		answers(t, d, m, cut("a", n), errArg)
		answers(t, d, m, cut("b", n), errNone)
		answers(t, d, m, cut("B", n), errName)
	}
}

// P12.5: onto itself, onto a file that is there, and onto one that is not.
func TestRename(t *testing.T) {
	a, bb := file("a", "12345"), file("bb", "789")
	d, m := made(t, 12, a, bb), modelOf(12, a, bb)
	answers(t, d, m, rename("a", "a"), 0)
	answers(t, d, m, rename("bb", "bb"), 0)
	if d.Pending() != 2 {
		t.Error("onto itself it is a step:", d.Pending())
	}
	answers(t, d, m, rename("a", "abc"), errRoom)
	answers(t, d, m, rename("a", "ab"), 0)
	answers(t, d, m, rename("ab", "abc"), errRoom)
	answers(t, d, m, rename("ab", "ab"), 0)
	answers(t, d, m, rename("bb", "ab"), 0)
	answers(t, d, m, rename("bb", "ab"), errNone)
	answers(t, d, m, rename("ab", "abcdefghij"), errRoom)
	answers(t, d, m, rename("ab", "abcdefghi"), 0)
	answers(t, d, m, rename("abcdefghi", "abcdefghij"), errRoom)
	answers(t, d, m, rename("abcdefghi", "abcdefgh"), 0)
}

// A name that is longer than what is free, in the place of a file that takes room itself.
func TestRenameOnto(t *testing.T) {
	long := strings.Repeat("l", 60)
	for size := range 3 {
		files := file(long, "zz"[:size])
		d, m := made(t, 62+size, file("a", "x"), files), modelOf(62+size, file("a", "x"), files)
		if d.Free() != 0 {
			t.Fatal(d.Free())
		}
		answers(t, d, m, rename("a", long), 0)
		answers(t, d, m, rename(long, "a"), 0)
		answers(t, d, m, rename("a", long), 0)
		answers(t, d, m, rename("a", long), errNone)
	}
	d, m := made(t, 70, file("a", "123456"), file("b", "")), modelOf(70, file("a", "123456"), file("b", ""))
	answers(t, d, m, rename("a", long), 0) // 66 and 1
	answers(t, d, m, extend("b", "xyz"), 0)
	answers(t, d, m, rename("b", "bb"), errRoom)
	answers(t, d, m, rename("b", long), 0)
	answers(t, d, m, rename(long, "b"), 0)
}

// Several faults of a Rename.
func TestRenameFaults(t *testing.T) {
	long := strings.Repeat("l", 60)
	d, m := made(t, 3, file("a", "x")), modelOf(3, file("a", "x"))
	for _, bad := range []string{"", "A", long + "l"} {
		for _, other := range []string{"a", "none", long, "B"} {
			answers(t, d, m, rename(bad, other), errName)
			answers(t, d, m, rename(other, bad), errName)
		}
		answers(t, d, m, rename(bad, bad), errName)
	}
	for _, to := range []string{"a", "none", "b", long} {
		answers(t, d, m, rename("none", to), errNone)
	}
	answers(t, d, m, rename("a", long), errRoom)
	answers(t, d, m, rename("a", "abc"), errRoom)
	answers(t, d, m, rename("a", "ab"), 0)
}

func TestRemove(t *testing.T) {
	d, m := made(t, 9, file("a", "xyz"), file("b", "1234")), modelOf(9, file("a", "xyz"), file("b", "1234"))
	answers(t, d, m, remove("c"), errNone)
	answers(t, d, m, remove("C"), errName)
	answers(t, d, m, remove("a"), 0)
	answers(t, d, m, remove("a"), errNone)
	if d.Free() != 4 {
		t.Error("Free:", d.Free())
	}
	// A new file of that name has none of the bytes.
	answers(t, d, m, create("a"), 0)
	answers(t, d, m, extend("a", "123"), 0)
	answers(t, d, m, remove("b"), 0)
	answers(t, d, m, remove("a"), 0)
	answers(t, d, m, create("ninebytes"), 0)
	answers(t, d, m, sync(), 0)
	answers(t, d, m, remove("ninebytes"), 0)
	answers(t, d, m, sync(), 0)
}

// P12.6: behind a Sync there are no steps, and all that is seen lasts.
func TestSync(t *testing.T) {
	r := rand.New(rand.NewSource(6))
	for range 60 {
		d, m := made(t, 90), modelOf(90)
		for range 5 {
			plays(t, d, m, some(6, func() op { return someAct(r) })...)
			seen := m.seen()
			plays(t, d, m, sync())
			if d.Pending() != 0 {
				t.Fatal("Pending:", d.Pending())
			}
			same(t, "Left(0)", d.Left(0), seen)
			plays(t, d, m, sync())
		}
	}
}

// Any calls at all, held against the model.
func TestAnyCalls(t *testing.T) {
	for seed := range 400 {
		r := rand.New(rand.NewSource(int64(seed)))
		room := []int{0, 3, 10, 30, 100, 1000}[seed%6]
		d, m := made(t, room), modelOf(room)
		plays(t, d, m, some(60, func() op { return someOp(r) })...)
	}
}

// Every pair of faults of every act, and each fault with a failure to come: the first one is answered, and the failure is still to come.
func TestFirstFault(t *testing.T) {
	names := []string{"A", "none", "a", "b"}
	var ops []op
	for _, name := range names {
		for _, data := range []string{"", "x", "xyz"} {
			ops = append(ops, extend(name, data))
		}
		for _, n := range []int{-1, 0, 2, 3} {
			ops = append(ops, cut(name, n))
		}
		for _, to := range append(names, "longer.name") {
			ops = append(ops, rename(name, to))
		}
		ops = append(ops, create(name), remove(name))
	}
	ops = append(ops, create("longer.name"), create("l"), sync())
	for _, o := range ops {
		for _, first := range [][]op{nil, {fail(1)}, {fail(2)}, {crash(0)}, {fail(1), crash(0)}, {crash(0), start()}} {
			d, m := made(t, 8, file("a", "12"), file("b", "12")), modelOf(8, file("a", "12"), file("b", "12"))
			plays(t, d, m, first...)
			plays(t, d, m, o, o, sync(), sync())
		}
	}
}

package image_test

import (
	"math"
	"math/rand"
	"reflect"
	"slices"
	"testing"

	"hawser/api"
	"hawser/image"
)

func TestNumbers(t *testing.T) {
	errors := []api.Errno{api.OK, api.ErrMade, api.ErrImageLong, api.ErrImageState, api.ErrImageForm, api.ErrImageSum}
	if !slices.Equal(errors, []api.Errno{0, 2, 90, 91, 92, 93}) {
		t.Errorf("errors: %v", errors)
	}
	limits := []int{api.MaxKey, api.MaxValue, api.MaxRows, api.MaxImage, api.MaxSeq}
	if !slices.Equal(limits, []int{1024, 65536, 1048576, 268435456, 1152921504606846976}) {
		t.Errorf("limits: %v", limits)
	}
}

// An opener has the chapter's calls alone, and nothing of it lies open.
func TestFace(t *testing.T) {
	var names []string
	for m := range reflect.TypeOf(image.New()).Methods() {
		names = append(names, m.Name)
	}
	slices.Sort(names)
	if !slices.Equal(names, []string{"End", "Write"}) {
		t.Errorf("%q", names)
	}
	for f := range reflect.TypeOf(image.Opener{}).Fields() {
		if f.IsExported() {
			t.Errorf("%s lies open", f.Name)
		}
	}
}

// P9.1 and P9.2

// checks holds Check, Size and Encode of a state against the chapter's words.
func checks(t *testing.T, s api.State) api.Errno {
	t.Helper()
	want := fault(s)
	if e := image.Check(s); e != want {
		t.Fatalf("Check(%s): %d, want %d", show(s), e, want)
	}
	n, e := image.Size(s)
	if e != want || e == 0 && n != sizeOf(s) || e != 0 && n != 0 {
		t.Fatalf("Size(%s): %d, %d, want %d", show(s), n, e, want)
	}
	b, e := image.Encode(s)
	if e != want || e == 0 && string(b) != string(form(s)) || e != 0 && b != nil {
		t.Fatalf("Encode(%s): %.40x, %d, want %d", show(s), b, e, want)
	}
	return want
}

func TestExamples(t *testing.T) {
	for i, c := range []struct {
		s    api.State
		want string
	}{
		// The sums stand here as they are, so that no reckoning of ours is behind them.
		{api.State{}, "hwi1\x00\x00" + "\x4f\x0f\x54\xd4"},
		{api.State{Rows: []api.Row{}}, "hwi1\x00\x00" + "\x4f\x0f\x54\xd4"},
		{example(), "hwi1\x07\x01\x01k\x01v\x05" + "\xd3\x21\xf3\xc8"},
	} {
		b, e := image.Encode(c.s)
		if e != 0 || string(b) != c.want {
			t.Errorf("%d: Encode: %x, %d", i, b, e)
		}
		if n, e := image.Size(c.s); e != 0 || n != len(c.want) {
			t.Errorf("%d: Size: %d, %d", i, n, e)
		}
		if s, e := image.Decode([]byte(c.want)); e != 0 || !same(s, c.s) {
			t.Errorf("%d: Decode: %s, %d", i, show(s), e)
		}
	}
	if e := checks(t, state(7, row("k", "v", 8))); e != 91 {
		t.Errorf("a version above Seq: %d", e)
	}
}

func TestCheckTakes(t *testing.T) {
	for _, s := range samples() {
		if e := checks(t, s); e != 0 {
			t.Errorf("%s: %d", show(s), e)
		}
	}
	r := rand.New(rand.NewSource(91))
	for range 3000 {
		if s := anything(r); checks(t, s) != 0 {
			t.Fatalf("%s", show(s))
		}
	}
}

// Each part at its edges, with each other one at its edges: as the only row, as the first one, and as the last one.
func TestCheckEdges(t *testing.T) {
	seen := map[api.Errno]int{}
	for _, seq := range []int{math.MinInt, -1, 0, 1, 2, 7, top - 1, top, top + 1, math.MaxInt} {
		seen[checks(t, state(seq))]++
		for _, version := range []int{math.MinInt, -1, 0, 1, seq - 1, seq, seq + 1, top, top + 1, math.MaxInt} {
			for _, key := range []string{"", "\x00", "k", "\xff", long(1024), long(1025)} {
				for _, value := range []string{"", "v", long(65536), long(65537)} {
					x := row(key, value, version)
					seen[checks(t, state(seq, x))]++
					seen[checks(t, state(seq, x, row("\xff\xff", "", 1)))]++
					seen[checks(t, state(seq, row("\x00", "", 1), row("\x00\x00", "", 1), x))]++
				}
			}
		}
	}
	if seen[0] < 100 || seen[91] < 100 || len(seen) != 2 {
		t.Errorf("%v", seen)
	}
}

// The numbers' own edges: each length of Seq, of a version, of a key and of a value.
func TestSizeEdges(t *testing.T) {
	for bits := range 61 {
		for _, v := range []int{1<<bits - 1, 1 << bits, min(1<<bits+1, top)} {
			checks(t, state(v))
			if v > 0 {
				checks(t, state(top, row("k", "", v)))
				checks(t, state(v, row("k", "", v)))
			}
			if v > 0 && v <= 1024 {
				checks(t, state(1, row(long(v), "", 1)))
			}
			if v <= 65536 {
				checks(t, state(1, row("k", long(v), 1)))
			}
		}
	}
	for _, n := range []int{0, 1, 2, 126, 127, 128, 129, 16383, 16384, 16385} {
		checks(t, state(1<<20, many(n)...))
	}
}

func TestCheckOrder(t *testing.T) {
	rising := []string{"\x00", "\x00\x00", "\x01", "K", "a", "a\x00", "a\x00b", "aa", "ab", "b", "\x7f", "\x80", "\xc3\xa4", "\xff", "\xff\xff"}
	for i, a := range rising {
		for j, b := range rising {
			e := checks(t, state(5, row(a, "", 1), row(b, "", 5)))
			if (e == 0) != (i < j) {
				t.Errorf("%q, %q: %d", a, b, e)
			}
			if i < j {
				checks(t, state(5, row("\x00", "", 1), row(a, "", 1), row(b, "", 1), row("\xff\xff", "", 1)))
			}
		}
	}
	// One that does not rise, anywhere among many.
	for i := range 40 {
		l := many(41)
		l[i].Key = l[i+1].Key
		if checks(t, state(100, l...)) != 91 {
			t.Errorf("twice, at %d", i)
		}
		l = many(41)
		l[i], l[i+1] = l[i+1], l[i]
		if checks(t, state(100, l...)) != 91 {
			t.Errorf("falling, at %d", i)
		}
		l = many(41)
		l[i].Version = 101
		if checks(t, state(100, l...)) != 91 {
			t.Errorf("a version above Seq, at %d", i)
		}
		l[i].Version = 100
		if checks(t, state(100, l...)) != 0 {
			t.Errorf("a version of Seq, at %d", i)
		}
	}
}

// P9.6

func TestThereAndBack(t *testing.T) {
	back := func(s api.State) {
		t.Helper()
		b, e := image.Encode(s)
		if e != 0 {
			t.Fatalf("Encode(%s): %d", show(s), e)
		}
		if got, e := image.Decode(b); e != 0 || !same(got, s) {
			t.Fatalf("Decode of Encode(%s): %s, %d", show(s), show(got), e)
		}
	}
	for _, s := range samples() {
		back(s)
	}
	r := rand.New(rand.NewSource(96))
	for range 3000 {
		back(anything(r))
	}
}

// States that are unlike in the least have unlike images.
func TestUnlike(t *testing.T) {
	images := map[string]api.State{}
	add := func(s api.State) {
		t.Helper()
		b, e := image.Encode(s)
		if e != 0 {
			t.Fatalf("Encode(%s): %d", show(s), e)
		}
		if other, there := images[string(b)]; there && !same(other, s) {
			t.Fatalf("one image of %s and of %s", show(other), show(s))
		}
		images[string(b)] = s
	}
	for _, key := range []string{"a", "aa", "ab", "b"} {
		for _, value := range []string{"", "a", "aa", "ab", "b"} {
			for version := 1; version < 4; version++ {
				for seq := 3; seq < 6; seq++ {
					add(state(seq))
					add(state(seq, row(key, value, version)))
					add(state(seq, row("A", value, 1), row(key, "", version)))
					add(state(seq, row("A", "", version), row(key, value, 1)))
				}
			}
		}
	}
	if len(images) < 400 {
		t.Errorf("%d images", len(images))
	}
}

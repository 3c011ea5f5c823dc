package wal_test

import (
	"math/rand"
	"slices"
	"strings"
	"testing"

	"hawser/api"
	"hawser/disk"
	"hawser/wal"
)

// The chapter's examples.
func TestExamples(t *testing.T) {
	d := made(t, 1000)
	l := opened(t, d, "a")
	if l.Len() != 0 || d.Acts() != 0 {
		t.Fatal("Open on an empty disk")
	}
	for i, r := range []string{"a", "bc"} {
		if n, e := l.Append([]byte(r)); n != i || e != 0 {
			t.Fatalf("Append: %d, %d", n, e)
		}
	}
	if n, e := d.Size("a"); n != 15+16 || e != 0 {
		t.Error("Size:", n, e)
	}
	tells(t, l, 0, 0, "a", "bc")
	crashed := made(t, 1000, d.Left(20)...)
	for range 2 {
		if e := l.Sync(); e != 0 || d.Acts() != 4 {
			t.Error("Sync:", e, d.Acts())
		}
		tells(t, l, 0, 2, "a", "bc")
	}
	tells(t, opened(t, crashed, "a"), 4, 1, "a")
	if e := l.Start([]byte("x")); e != 0 || d.Acts() != 8 {
		t.Error("Start:", e, d.Acts())
	}
	tells(t, l, 0, 1, "x")

	d = made(t, 1000, file("a", logOf("old")), file("a.n", logOf("x")))
	tells(t, opened(t, d, "a"), 0, 1, "old")
	has(t, d, file("a", logOf("old")))

	if l, e := wal.Open(made(t, 99, file("a", framed(2, "x"))), "a"); l != nil || e != errForm {
		t.Error("a frame of type 2:", e)
	}
	if l, e := wal.Open(d, strings.Repeat("a", 59)); l != nil || e != errName {
		t.Error("a name of 59 bytes:", e)
	}

	d = made(t, 1000)
	l = opened(t, d, "a")
	d.Fail(1)
	if n, e := l.Append([]byte("a")); n != 0 || e != errFail {
		t.Error("Append:", n, e)
	}
	if n, e := l.Append([]byte("b")); n != 0 || e != errClosed || l.Len() != 0 {
		t.Error("Append:", n, e)
	}
}

// refuses: Open answers this error and no log, and leaves the disk as it is.
func refuses(t *testing.T, d *disk.Disk, name string, want api.Errno) {
	t.Helper()
	files, acts := text(d.Files()), d.Acts()
	if l, e := wal.Open(d, name); l != nil || e != want {
		t.Fatalf("Open(%.70q): %v, %d, want %d", name, l, e, want)
	}
	if text(d.Files()) != files || d.Acts() != acts {
		t.Fatalf("Open(%.70q) was refused, and has done something", name)
	}
}

// P13.1: a disk that no call made, ahead of all others.
func TestOpenUnmade(t *testing.T) {
	for _, d := range []*disk.Disk{nil, {}, new(disk.Disk)} {
		for _, name := range []string{"a", "", "A", strings.Repeat("a", 59)} {
			refuses(t, d, name, errMade)
		}
	}
}

// Names that may be: of a disk, and with .n behind them.
func TestOpenNames(t *testing.T) {
	for n := range 70 {
		name := strings.Repeat("q", n)
		d := made(t, 500)
		if n < 1 || n > 58 {
			refuses(t, d, name, errName)
			continue
		}
		l := opened(t, d, name)
		if _, e := l.Append([]byte("x")); e != 0 {
			t.Fatal(e)
		}
		has(t, d, file(name, logOf("x")))
		if e := l.Start([]byte("y")); e != 0 {
			t.Fatal(e)
		}
		has(t, d, file(name, logOf("y")))
	}
	for _, name := range []string{"A", "a b", "a/b", "a\x00", "é", "a.N", "\xff", strings.Repeat("a", 1<<16)} {
		refuses(t, made(t, 99), name, errName)
	}
	for _, name := range []string{".", ".n", "-", "_", "9", "a.n", "..", "x-1_y.z"} {
		d := made(t, 99)
		tells(t, opened(t, d, name), 0, 0)
		has(t, d)
	}
}

// ErrDiskDown is ahead of the names, and these are ahead of all steps.
func TestOpenOrder(t *testing.T) {
	long := strings.Repeat("a", 59)
	d := made(t, 999, file(long, framed(2, "")), file("a", logOf("x")+"torn"), file("a.n", "new"))
	d.Append("a", []byte("more"))
	refuses(t, d, long, errName)
	refuses(t, d, long+"a", errName)
	refuses(t, d, "", errName)
	d.Fail(1)
	refuses(t, d, "A", errName)
	d.Crash(9)
	for _, name := range []string{"a", "A", "", long, "none"} {
		refuses(t, d, name, errDown)
	}
	d.Start()
	refuses(t, d, long, errName)
	tells(t, opened(t, d, "a"), 8, 1, "x")
}

// One step behind the other: what each leaves when it fails, and what is asked of the disk at all.
func TestOpenSteps(t *testing.T) {
	type step struct {
		files []api.File
		acts  int // that an Open needs
	}
	x := logOf("x")
	for i, c := range []step{
		{nil, 0},
		{[]api.File{file("b", "junk"), file("an", "junk"), file("n", "y"), file(".n", "z")}, 0},
		{[]api.File{file("a", "")}, 0},
		{[]api.File{file("a", x)}, 0},
		{[]api.File{file("a", x+"j")}, 2},
		{[]api.File{file("a", "j")}, 2},
		{[]api.File{file("a.n", x)}, 2},
		{[]api.File{file("a.n", ""), file("a", "")}, 2},
		{[]api.File{file("a.n", x), file("a", x)}, 2},
		{[]api.File{file("a.n", x), file("a", x+"j")}, 3},
		{[]api.File{file("a.n", x), file("a.n.n", x), file("a", x+x[:14])}, 3},
	} {
		for failing := range c.acts + 2 {
			p := &pair{d: made(t, 200, c.files...), m: &model{d: made(t, 200, c.files...)}, name: "a"}
			p.play(t, fail(failing), reopen())
			if fails := failing >= 1 && failing <= c.acts; (p.l == nil) != fails {
				t.Fatalf("row %d, act %d fails: %v", i, failing, p.l)
			}
			if p.l != nil && p.d.Acts() != c.acts {
				t.Fatalf("row %d: %d acts, want %d", i, p.d.Acts(), c.acts)
			}
			p.play(t, reopen(), lay("more"), reopen())
			if p.d.Pending() != 0 {
				t.Fatalf("row %d: %d steps are left", i, p.d.Pending())
			}
		}
	}
}

// What was done ahead of the step that fails stays done.
func TestOpenStaysDone(t *testing.T) {
	x := logOf("x")
	old, new := file("a", x+"torn"), file("a.n", x)
	for i, want := range [][]api.File{{old, new}, {old}, {file("a", x)}, {file("a", x)}} {
		d := made(t, 200, old, new)
		d.Fail(i + 1)
		l, e := wal.Open(d, "a")
		if (i < 3) != (e == errFail) || (i < 3) != (l == nil) {
			t.Fatalf("act %d fails: %d", i+1, e)
		}
		has(t, d, want...)
		if i < 3 && text(d.Left(0)) != text([]api.File{old, new}) {
			t.Fatalf("act %d fails: %s lasts", i+1, text(d.Left(0)))
		}
	}
}

// Sync, if the disk has steps, whoever made them; else none.
func TestOpenSyncs(t *testing.T) {
	for i, do := range []func(*disk.Disk){
		func(d *disk.Disk) { d.Create("other") },
		func(d *disk.Disk) { d.Append("a", []byte(logOf("y"))) },
		func(d *disk.Disk) { d.Rename("a", "a") },
		func(d *disk.Disk) { d.Remove("a") },
	} {
		d := made(t, 200, file("a", logOf("x")))
		do(d)
		acts := d.Acts()
		l := opened(t, d, "a")
		if d.Acts() != acts+1 || d.Pending() != 0 || l.Lasting() != l.Len() {
			t.Errorf("row %d: %d acts, %d steps are left", i, d.Acts()-acts, d.Pending())
		}
		opened(t, d, "a")
		if d.Acts() != acts+1 {
			t.Errorf("row %d: synced, and nothing was to do", i)
		}
	}
	d := made(t, 200, file("a", logOf("x")))
	d.Append("a", nil)
	if opened(t, d, "a"); d.Acts() != 1 {
		t.Error("an Append of no bytes is no step, and Open synced")
	}
}

// ErrWalForm: a whole frame of another type, behind any records; nothing is cut, nor synced.
func TestOpenForm(t *testing.T) {
	for kind := 2; kind < 256; kind++ {
		for _, ahead := range []string{"", logOf("a", "bc")} {
			for _, behind := range []string{"", "junk", logOf("z"), framed(9, "")} {
				d := made(t, 500, file("a", ahead+framed(kind, "body")+behind))
				refuses(t, d, "a", errForm)
			}
		}
	}
	// where no whole frame stands, no form is asked for
	for _, rest := range []string{framed(2, "body")[:17], framed(0, "body"), "j" + framed(2, "body"), framed(2, "body")[:14] + logOf("z")} {
		d := made(t, 500, file("a", logOf("a")+rest))
		tells(t, opened(t, d, "a"), len(rest), 1, "a")
		has(t, d, file("a", logOf("a")))
	}
	// the file with .n is gone all the same, and stays so without a Sync
	d := made(t, 500, file("a", framed(2, "")), file("a.n", "new"))
	if l, e := wal.Open(d, "a"); l != nil || e != errForm || d.Acts() != 1 || d.Pending() != 1 {
		t.Error("a file that is no log, and one with .n:", e, d.Acts(), d.Pending())
	}
	has(t, d, file("a", framed(2, "")))
	// and what stands in it is not looked at
	d = made(t, 500, file("a", logOf("a")), file("a.n", framed(2, "")))
	tells(t, opened(t, d, "a"), 0, 1, "a")
}

// A file that is cut anywhere: the whole records are there, the rest is torn.
func TestOpenTorn(t *testing.T) {
	records := []string{"", "a", "bc", framed(1, "inner"), "HW", strings.Repeat("\x00", 20)}
	whole := logOf(records...)
	for n := range len(whole) + 1 {
		d := made(t, 500, file("log", whole[:n]))
		i := len(records)
		for len(logOf(records[:i]...)) > n {
			i--
		}
		size := len(logOf(records[:i]...))
		l := opened(t, d, "log")
		tells(t, l, n-size, i, records[:i]...)
		has(t, d, file("log", whole[:size]))
		if want := min(1, n-size) * 2; d.Acts() != want || d.Pending() != 0 {
			t.Fatalf("cut at %d: %d acts, want %d", n, d.Acts(), want)
		}
		if at, e := l.Append([]byte("new")); at != i || e != 0 {
			t.Fatalf("Append behind it: %d, %d", at, e)
		}
		has(t, d, file("log", whole[:size]+logOf("new")))
		tells(t, l, n-size, i, slices.Concat(records[:i], []string{"new"})...)
		tells(t, opened(t, d, "log"), 0, i+1, slices.Concat(records[:i], []string{"new"})...)
	}
}

// A bit that is turned: the records ahead of it are there, none behind it.
func TestOpenSpoilt(t *testing.T) {
	records := []string{"a", "bc", "", "def"}
	whole := logOf(records...)
	for bit := range 8 * len(whole) {
		b := []byte(whole)
		b[bit/8] ^= 1 << (bit % 8)
		i := 0
		for len(logOf(records[:i+1]...)) <= bit/8 {
			i++
		}
		size := len(logOf(records[:i]...))
		d := made(t, 500, file("log", string(b)))
		tells(t, opened(t, d, "log"), len(whole)-size, i, records[:i]...)
		has(t, d, file("log", whole[:size]))
	}
}

// Any bytes at all, through the model.
func TestOpenAnything(t *testing.T) {
	for seed := range 3000 {
		r := rand.New(rand.NewSource(int64(seed)))
		var b strings.Builder
		for range r.Intn(4) {
			switch r.Intn(7) {
			case 0:
				b.WriteString(framed(r.Intn(4), someRecord(r)))
			case 1:
				b.WriteString(someRecord(r))
			default:
				b.WriteString(logOf(someRecord(r)))
			}
		}
		files := []api.File{file("a", b.String())}
		if r.Intn(3) == 0 {
			files = append(files, file("a.n", someRecord(r)))
		}
		p := &pair{d: made(t, 400, files...), m: &model{d: made(t, 400, files...)}, name: "a"}
		p.play(t, reopen(), lay("more"), begin("x", "y"), reopen())
	}
}

// A long file, and the longest record in it; one that is longer is no frame.
func TestOpenLong(t *testing.T) {
	long := strings.Repeat("long", maxRecord/4)
	d := made(t, maxDisk, file("a", logOf("x", long, "y")))
	tells(t, opened(t, d, "a"), 0, 3, "x", long, "y")
	longer := framed(1, long+"!")
	d = made(t, maxDisk, file("a", logOf("x")+longer+logOf("y")))
	tells(t, opened(t, d, "a"), len(longer)+15, 1, "x")

	many := make([]string, 200000)
	for i := range many {
		many[i] = strings.Repeat("r", i%5)
	}
	d = made(t, maxDisk, file("a", logOf(many...)))
	tells(t, opened(t, d, "a"), 0, len(many), many...)
}

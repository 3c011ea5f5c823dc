package disk_test

import (
	"bytes"
	"math/rand"
	"slices"
	gosync "sync"
	"testing"

	"hawser/api"
	"hawser/disk"
)

// R3: what is handed in stays, what is answered is the caller's own.

func spoil[T any](l []T, by T) {
	l = l[:cap(l)]
	for i := range l {
		l[i] = by
	}
}

func spoilFiles(l []api.File) {
	for _, f := range l {
		spoil(f.Data, 'X')
	}
	spoil(l, api.File{Name: "spoilt"})
}

// roomy is a list with some room behind its end, in which by stands.
func roomy[T any](l []T, by T) []T {
	return append(slices.Clone(l), by, by, by, by)[: len(l) : len(l)+4]
}

func TestBytesHandedIn(t *testing.T) {
	d, m := made(t, 40, file("a", "")), modelOf(40, file("a", ""))
	for _, c := range []struct {
		name, data string
		want       api.Errno
	}{{"a", "one", 0}, {"a", "", 0}, {"a", "two and more", 0}, {"a", "more than there is room for, by far", errRoom}, {"b", "x", errNone}, {"B", "x", errName}, {"a", "three", errFail}, {"a", "four", 0}} {
		if c.want == errFail {
			plays(t, d, m, fail(1))
		}
		b := roomy([]byte(c.data), '!')
		if e := d.Append(c.name, b); e != c.want || m.do(extend(c.name, c.data)) != e {
			t.Fatalf("Append(%q, %q): %d", c.name, c.data, e)
		}
		if string(b) != c.data || string(b[len(b):cap(b)]) != "!!!!" {
			t.Fatal("what was handed in has changed")
		}
		spoil(b, 'X')
		tells(t, d, m)
	}
	plays(t, d, m, sync(), crash(0), start())
}

func TestFilesHandedIn(t *testing.T) {
	for _, room := range []int{0, 9, 99} {
		mark := file("mark", "mark")
		want := []api.File{file("b", "xy"), file("a", ""), file("c", "12345")}
		files := roomy(nil, mark)
		for _, f := range want {
			files = append(files, api.File{Name: f.Name, Data: roomy(f.Data, '!')})
		}
		files = roomy(files, mark)
		d, e := disk.New(room, files...)
		if (e == 0) != (room == 99) {
			t.Fatal("New:", e)
		}
		for i, f := range files {
			if f.Name != want[i].Name || !bytes.Equal(f.Data, want[i].Data) || string(f.Data[len(f.Data):cap(f.Data)]) != "!!!!" {
				t.Fatal("a file that was handed in has changed")
			}
		}
		for _, f := range files[len(files):cap(files)] {
			if f.Name != "mark" || string(f.Data) != "mark" {
				t.Fatal("the room behind the files has changed")
			}
		}
		spoilFiles(files)
		if e == 0 {
			m := modelOf(room, want...)
			tells(t, d, m)
			plays(t, d, m, extend("b", "z"), crash(0), start())
		}
	}
}

// One list of bytes under two names makes two files.
func TestOneListTwice(t *testing.T) {
	b := make([]byte, 3, 40)
	copy(b, "xyz")
	files := []api.File{{Name: "a", Data: b}, {Name: "b", Data: b[:2]}}
	d, m := made(t, 99, files...), modelOf(99, files...)
	plays(t, d, m, extend("a", "1"), extend("b", "2"), cut("a", 0), extend("a", "new"), sync(), extend("b", "3"), extend("a", "4"))
	if !bytes.Equal(b, []byte("xyz")) || b[:4][3] != 0 {
		t.Error("what was handed in has changed")
	}
}

// spoilAnswers spoils every list that a disk answers, its spare room too.
func spoilAnswers(d *disk.Disk) {
	spoil(d.Names(), "spoilt")
	spoilFiles(d.Files())
	for k := -1; k <= d.Pending()+1; k++ {
		spoilFiles(d.Left(k))
	}
	for _, name := range pool {
		b, _ := d.Read(name)
		spoil(b, 'X')
	}
}

func TestListsAnswered(t *testing.T) {
	for seed := range 60 {
		r := rand.New(rand.NewSource(int64(300 + seed)))
		d, m := made(t, 70), modelOf(70)
		for range 40 {
			o := someOp(r)
			spoilAnswers(d)
			plays(t, d, m, o)
		}
	}
}

// No two lists of one answer share anything, nor does one answer with another one.
func TestNoneShared(t *testing.T) {
	d, m := made(t, 99, file("a", "xyz"), file("b", "123")), modelOf(99, file("a", "xyz"), file("b", "123"))
	plays(t, d, m, extend("a", "w"), create("c"), extend("c", "new"), rename("b", "d"))
	for _, ask := range []func() []api.File{d.Files, func() []api.File { return d.Left(0) }, func() []api.File { return d.Left(3) }, func() []api.File { return d.Left(99) }} {
		other, want := ask(), text(ask())
		for i := range other {
			l := ask()
			spoil(l[i].Data, 'X')
			l[i].Data = other[i].Data
			if text(l) != want {
				t.Error("two files of an answer share bytes")
			}
		}
		if text(other) != want || text(ask()) != want {
			t.Error("an answer hangs on another one")
		}
	}
	tells(t, d, m)
}

// What was answered stays, whatever is done later.
func TestAnswersStay(t *testing.T) {
	for seed := range 60 {
		r := rand.New(rand.NewSource(int64(700 + seed)))
		d, m := made(t, 70), modelOf(70)
		var files [][]api.File
		var reads [][]byte
		var want, wantReads []string
		for range 40 {
			plays(t, d, m, someOp(r))
			k := r.Intn(d.Pending() + 1)
			b, _ := d.Read("a")
			files, reads = append(files, d.Files(), d.Left(k)), append(reads, b)
			want, wantReads = append(want, m.seen().String(), m.left(k).String()), append(wantReads, string(b))
		}
		for i, l := range files {
			if text(l) != want[i] {
				t.Fatal("an answer has changed")
			}
		}
		for i, b := range reads {
			if string(b) != wantReads[i] {
				t.Fatal("bytes that were read have changed")
			}
		}
	}
}

// R4: two disks of the same files know nothing of each other, and looking alone changes nothing.
func TestOnTheirOwn(t *testing.T) {
	files := []api.File{file("a", "xyz"), file("b", "")}
	first, m := made(t, 80, files...), modelOf(80, files...)
	second, n := made(t, 80, files...), modelOf(80, files...)
	r := rand.New(rand.NewSource(4))
	for range 300 {
		plays(t, first, m, someOp(r))
		plays(t, second, n, someOp(r))
		tells(t, first, m)
	}
}

func TestGoroutines(t *testing.T) {
	files := []api.File{file("a", "xyz"), file("b", "12")}
	looked := made(t, 80, files...)
	looked.Append("b", []byte("345"))
	var wg gosync.WaitGroup
	for i := range 6 {
		wg.Go(func() {
			r := rand.New(rand.NewSource(int64(i)))
			d, m := made(t, 80, files...), modelOf(80, files...)
			for range 60 {
				o := someOp(r)
				if e, want := o.on(d), m.do(o); e != want || text(d.Files()) != m.seen().String() {
					t.Errorf("%v: %d, want %d", o, e, want)
				}
				if text(looked.Left(2)) != (state{"a": "xyz", "b": "1234"}).String() || len(looked.Files()) != 2 {
					t.Error("Left")
				}
			}
		})
	}
	wg.Wait()
}

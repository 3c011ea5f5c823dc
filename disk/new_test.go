package disk_test

import (
	"math"
	"slices"
	"strings"
	"testing"

	"hawser/api"
	"hawser/disk"
)

func TestNumbers(t *testing.T) {
	got := []api.Errno{api.ErrDiskName, api.ErrDiskNone, api.ErrDiskThere, api.ErrDiskRoom, api.ErrDiskFail, api.ErrDiskDown, api.ErrArg, api.ErrMade}
	if want := []api.Errno{errName, errNone, errThere, errRoom, errFail, errDown, errArg, errMade}; !slices.Equal(got, want) {
		t.Errorf("the errors: %v", got)
	}
	if api.MaxName != 60 || api.MaxDisk != maxDisk {
		t.Error("the limits")
	}
}

// P12.1: what is wrong, of several faults the first one.
func TestNewRefuses(t *testing.T) {
	a5, b1 := file("a", "12345"), file("b", "7")
	long := strings.Repeat("z", 61)
	for i, c := range []struct {
		room  int
		files []api.File
		want  api.Errno
	}{
		{-1, nil, errArg},
		{math.MinInt, nil, errArg},
		{maxDisk + 1, nil, errArg},
		{math.MaxInt, nil, errArg},
		{-1, []api.File{file("", "")}, errArg},
		{maxDisk + 1, []api.File{a5, a5}, errArg},
		{7, []api.File{a5, b1}, errRoom},
		{5, []api.File{a5, b1}, errRoom},
		{0, []api.File{file("a", "")}, errRoom},
		{59, []api.File{file(strings.Repeat("z", 60), "")}, errRoom},
		{99, []api.File{file("a", ""), file("a", "")}, errThere},
		{99, []api.File{a5, b1, file("a", "6")}, errThere},
		{99, []api.File{file("", "")}, errName},
		{99, []api.File{file("a b", "")}, errName},
		{99, []api.File{file(long, "")}, errName},
		{99, []api.File{a5, b1, file("B", "")}, errName},
		// a file's own faults: name, there, room
		{0, []api.File{file("A", "12345")}, errName},
		{2, []api.File{file("a", ""), file("a", "12345")}, errThere},
		{99, []api.File{file("A", ""), file("A", "")}, errName},
		// a file ahead of the next one
		{5, []api.File{a5, file("A", "")}, errRoom},
		{99, []api.File{file("a", ""), file("a", ""), file("A", "")}, errThere},
		{99, []api.File{file("A", ""), file("a", ""), file("a", "")}, errName},
		{6, []api.File{a5, b1, file("a", "")}, errRoom},
		{6, []api.File{a5, file("A", ""), b1}, errName},
		{6, []api.File{a5, file("a", ""), b1}, errThere},
	} {
		if d, e := disk.New(c.room, c.files...); d != nil || e != c.want {
			t.Errorf("row %d: %v, %d, want %d", i, d, e, c.want)
		}
	}
}

// P12.1: a disk with these files, seen and lasting, and nothing done.
func TestNewTakes(t *testing.T) {
	full := file(strings.Repeat("z", 60), "all bytes: \x00\xff\n")
	for i, c := range []struct {
		room  int
		files []api.File
	}{
		{0, nil},
		{0, []api.File{}},
		{1, []api.File{file("a", "")}},
		{1, []api.File{{Name: "a"}}},
		{8, []api.File{file("a", "12345"), file("b", "7")}},
		{9, []api.File{file("b", "12345"), file("a", "7")}},
		{8, []api.File{file("a", ""), file("aa", ""), file("b", ""), file("ab", ""), file("-", ""), file("_", "")}},
		{74, []api.File{full}},
		{maxDisk, nil},
		{maxDisk, []api.File{full, file(".", "1"), file("9", "2"), file("..", "3")}},
	} {
		t.Log("row", i)
		d, m := made(t, c.room, c.files...), modelOf(c.room, c.files...)
		tells(t, d, m)
		plays(t, d, m, sync(), create("q"), crash(0), start(), create("q"))
	}
}

// Each byte, alone and among others: a name may have the 39 of them.
func TestBytesOfNames(t *testing.T) {
	many := 0
	for c := range 256 {
		b := string([]byte{byte(c)})
		may := c >= 'a' && c <= 'z' || c >= '0' && c <= '9' || c == '.' || c == '-' || c == '_'
		if may {
			many++
		}
		for _, name := range []string{b, b + "a", "a" + b, "a" + b + "a", strings.Repeat("q", 59) + b, b + strings.Repeat("q", 59)} {
			named(t, name, may)
		}
		named(t, strings.Repeat("q", 60)+b, false)
	}
	if many != 39 {
		t.Error(many)
	}
	for _, name := range []string{"", "é", "ß", "\u0131", "K", "a/b", "a\x00", strings.Repeat("é", 30), strings.Repeat("a", 1<<16)} {
		named(t, name, false)
	}
	for n := range 64 {
		named(t, strings.Repeat("-", n), n >= 1 && n <= 60)
	}
}

// named: every call that takes a name takes this one, or refuses it.
func named(t *testing.T, name string, may bool) {
	t.Helper()
	e, none := api.Errno(0), errNone
	if !may {
		e, none = errName, errName
	}
	if d, got := disk.New(99, file(name, "")); got != e || (d != nil) != may {
		t.Fatalf("New with %.70q: %d", name, got)
	}
	d, m := made(t, 300, file("there", "")), modelOf(300, file("there", ""))
	for _, o := range []op{extend(name, ""), cut(name, 0), remove(name), rename(name, "there"), rename(name, name)} {
		answers(t, d, m, o, none)
	}
	_, read := d.Read(name)
	_, size := d.Size(name)
	if read != none || size != none {
		t.Fatalf("Read, Size of %.70q: %d, %d", name, read, size)
	}
	answers(t, d, m, create(name), e)
	answers(t, d, m, rename("there", name), e)
	if may {
		answers(t, d, m, rename(name, "there"), 0)
		return
	}
	answers(t, d, m, rename("none", name), errName)
	answers(t, d, m, rename(name, "none"), errName)
}

// The greatest disk, and the greatest file that it takes.
func TestGreatest(t *testing.T) {
	b := make([]byte, maxDisk)
	b[maxDisk-2] = 7
	if d, e := disk.New(maxDisk, api.File{Name: "a", Data: b}); d != nil || e != errRoom {
		t.Fatal("New with a file that is one byte too long:", e)
	}
	d := made(t, maxDisk)
	if d.Free() != maxDisk || d.Append("a", b) != errNone || d.Create("a") != 0 || d.Free() != maxDisk-1 {
		t.Fatal("Create:", d.Free())
	}
	if e := d.Append("a", b); e != errRoom {
		t.Fatal("Append of one byte too many:", e)
	}
	if d.Append("a", b[:maxDisk-1]) != 0 || d.Free() != 0 || d.Pending() != maxDisk || d.Create("b") != errRoom || d.Append("a", b[:1]) != errRoom || d.Append("a", nil) != 0 {
		t.Fatal("Append:", d.Free(), d.Pending())
	}
	d.Crash(maxDisk - 1)
	if d.Start(); d.Free() != 1 || d.Pending() != 0 {
		t.Fatal("Crash:", d.Free())
	}
	if n, e := d.Size("a"); n != maxDisk-2 || e != 0 {
		t.Fatal("Size:", n, e)
	}
	whole := made(t, maxDisk, api.File{Name: "a", Data: b[:maxDisk-1]})
	if l := whole.Files(); whole.Free() != 0 || len(l) != 1 || len(l[0].Data) != maxDisk-1 || l[0].Data[maxDisk-2] != 7 {
		t.Fatal("New with the greatest file:", whole.Free())
	}
}

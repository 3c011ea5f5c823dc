package disk_test

import (
	"math"
	"testing"

	"hawser/disk"
)

// P12.10, R5: a disk that no call made changes nothing, and answers zero values.
func TestUnmade(t *testing.T) {
	refused, _ := disk.New(-1)
	for name, d := range map[string]*disk.Disk{"nil": nil, "zero": {}, "new": new(disk.Disk), "refused": refused} {
		for range 3 { // what was asked of it makes nothing of it
			for _, o := range []op{create("a"), create(""), extend("a", "x"), extend("a", ""), extend("A", "x"), cut("a", 0), cut("a", -1), rename("a", "a"), rename("a", ""), remove("a"), sync()} {
				if e := o.on(d); e != errMade {
					t.Errorf("%s: %v: %d", name, o, e)
				}
			}
			for _, file := range []string{"a", "", "A"} {
				if b, e := d.Read(file); e != errMade || len(b) != 0 {
					t.Errorf("%s: Read: %d", name, e)
				}
				if n, e := d.Size(file); e != errMade || n != 0 {
					t.Errorf("%s: Size: %d, %d", name, n, e)
				}
			}
			for _, n := range []int{math.MinInt, -1, 0, 1, math.MaxInt} {
				if len(d.Left(n)) != 0 {
					t.Errorf("%s: Left", name)
				}
				d.Fail(n)
				d.Crash(n)
				if d.Down() {
					t.Errorf("%s: Down", name)
				}
				d.Start()
			}
			if len(d.Names()) != 0 || len(d.Files()) != 0 || d.Free() != 0 || d.Acts() != 0 || d.Pending() != 0 || d.Down() {
				t.Errorf("%s: it tells something", name)
			}
		}
	}
}

// A disk without room and files is one that a call made.
func TestEmptyIsMade(t *testing.T) {
	d, m := made(t, 0), modelOf(0)
	plays(t, d, m, sync(), create("a"), crash(3), sync(), start(), sync(), fail(1), sync(), sync())
}

// A disk that was overwritten by none is as one that no call made.
func TestOverwritten(t *testing.T) {
	d := made(t, 9, file("a", "x"))
	*d = disk.Disk{}
	if d.Sync() != errMade || len(d.Files()) != 0 || d.Free() != 0 {
		t.Error("what was overwritten goes on")
	}
}

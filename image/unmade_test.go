package image_test

import (
	"testing"

	"hawser/image"
)

// R5: an opener that no call made reads nothing, and answers zero values and ErrMade.
func TestUnmade(t *testing.T) {
	for name, o := range map[string]*image.Opener{"nil": nil, "zero": {}, "new": new(image.Opener)} {
		for range 2 { // what was asked of it makes nothing of it
			for _, b := range [][]byte{nil, {}, []byte("hw"), []byte("hx"), form(example())} {
				if l, e := o.Write(b); e != 2 || l != nil {
					t.Errorf("%s: Write(%x): %v, %d", name, b, l, e)
				}
			}
			if n, e := o.End(); e != 2 || n != 0 {
				t.Errorf("%s: End: %d, %d", name, n, e)
			}
		}
	}
	if image.New() == nil || image.New() == image.New() {
		t.Error("New")
	}
}

package delta_test

import (
	"testing"

	"hawser/api"
	"hawser/delta"
)

// R5: a store that no call made changes nothing, and answers zero values.
func TestUnmade(t *testing.T) {
	for name, s := range map[string]*delta.Store{"nil": nil, "zero": {}, "new": new(delta.Store)} {
		for range 2 { // what was asked of it makes nothing of it
			for _, u := range []api.Update{put(1, "a", "x"), {}, put(2, "a", "x"), update(1, 0, 0, 0, "", "", 0), update(1, 1, 1, 2, "a", "", 0), update(1, 1, 1, 3, "a", "", 0)} {
				if r, e := s.Apply(u); e != 2 || r != (api.Result{}) {
					t.Errorf("%s: Apply(%s): %v, %d", name, brief(u), r, e)
				}
			}
			if s.Seq() != 0 {
				t.Errorf("%s: Seq: %d", name, s.Seq())
			}
			for _, key := range []string{"", "a", "\x00s\x01"} {
				if r, ok := s.Get(key); ok || r != (api.Row{}) {
					t.Errorf("%s: Get(%q): %v, %v", name, key, r, ok)
				}
			}
			for _, c := range clients {
				if n, r, q := s.Last(c); n != 0 || r != (api.Result{}) || q != 0 {
					t.Errorf("%s: Last(%d): %d, %v, %d", name, c, n, r, q)
				}
			}
			if x := s.State(); x.Seq != 0 || len(x.Rows) != 0 {
				t.Errorf("%s: State: %s", name, show(x))
			}
			if s.Snapshot() != nil {
				t.Errorf("%s: Snapshot", name)
			}
			if s.Table() != nil {
				t.Errorf("%s: Table", name)
			}
		}
	}
}

package config_test

import (
	"math"
	"testing"

	"hawser/api"
	"hawser/config"
)

// span is from where to where a setting may be.
type span struct{ least, most int }

func spans() []span { return []span{{1, 3}, {1, 64}, {1, 100}, {64, 262144}, {1, 4096}} }

func settings(l []int) api.Settings {
	return api.Settings{Depth: l[0], Window: l[1], Patience: l[2], Chunk: l[3], Deltas: l[4]}
}

func TestSettingsExamples(t *testing.T) {
	for _, x := range []struct {
		s    api.Settings
		want api.Errno
	}{
		{api.Settings{Depth: 1, Window: 4, Patience: 2, Chunk: 64, Deltas: 8}, 0},
		{api.Settings{Depth: 3, Window: 64, Patience: 100, Chunk: 262144, Deltas: 4096}, 0},
		{api.Settings{Depth: 1, Window: 1, Patience: 1, Chunk: 64, Deltas: 1}, 0},
		{api.Settings{Depth: 1, Window: 4, Patience: 2, Chunk: 63, Deltas: 8}, errArg},
		{api.Settings{}, errArg},
	} {
		if e := config.Settings(x.s); e != x.want {
			t.Errorf("Settings(%v): %d", x.s, e)
		}
	}
}

// Each setting at its ends and beyond, with all others at each of theirs.
func TestSettings(t *testing.T) {
	var try func(l []int, fine bool)
	try = func(l []int, fine bool) {
		if len(l) == len(spans()) {
			want := errArg
			if fine {
				want = 0
			}
			if e := config.Settings(settings(l)); e != want {
				t.Fatalf("Settings(%v): %d, want %d", settings(l), e, want)
			}
			return
		}
		x := spans()[len(l)]
		for _, v := range []int{math.MinInt, -x.least, 0, x.least - 1, x.least, x.least + 1, x.most - 1, x.most, x.most + 1, math.MaxInt} {
			try(append(l[:len(l):len(l)], v), fine && x.least <= v && v <= x.most)
		}
	}
	try(nil, true)
}

// Each value of one setting, with the others in their midst.
func TestEachSetting(t *testing.T) {
	for i, x := range spans() {
		for v := -10; v <= x.most+10; v++ {
			l := []int{2, 8, 9, 100, 50}
			l[i] = v
			want := errArg
			if x.least <= v && v <= x.most {
				want = 0
			}
			if e := config.Settings(settings(l)); e != want {
				t.Fatalf("Settings(%v): %d, want %d", settings(l), e, want)
			}
		}
	}
}

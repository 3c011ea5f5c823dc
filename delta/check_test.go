package delta_test

import (
	"math"
	"reflect"
	"slices"
	"testing"

	"hawser/api"
	"hawser/delta"
)

func TestNumbers(t *testing.T) {
	errors := []api.Errno{api.ErrDeltaKind, api.ErrDeltaKey, api.ErrDeltaValue, api.ErrDeltaClient, api.ErrDeltaNumber, api.ErrDeltaSeq, api.ErrDeltaForm, api.ErrDeltaState}
	if !slices.Equal(errors, []api.Errno{80, 81, 82, 83, 84, 85, 86, 87}) || api.ErrMade != 2 || api.OK != 0 {
		t.Errorf("errors: %v", errors)
	}
	if api.OpPut != 1 || api.OpDelete != 2 || api.OpCas != 3 {
		t.Error("kinds")
	}
	codes := []api.Code{api.CodeDone, api.CodeNone, api.CodeStale, api.CodeFull, api.CodeOld}
	if !slices.Equal(codes, []api.Code{1, 2, 3, 4, 5}) {
		t.Errorf("codes: %v", codes)
	}
	limits := []int{api.MaxKey, api.MaxValue, api.MaxRows, api.MaxClients, api.MaxSeq, api.MaxNumber}
	if !slices.Equal(limits, []int{1024, 65536, 1048576, 16, 1152921504606846976, 1152921504606846976}) {
		t.Errorf("limits: %v", limits)
	}
}

// A store has the chapter's calls alone: by those of its table it could be changed without an update.
func TestFace(t *testing.T) {
	var names []string
	for m := range reflect.TypeOf(delta.New()).Methods() {
		names = append(names, m.Name)
	}
	slices.Sort(names)
	if !slices.Equal(names, []string{"Apply", "Get", "Last", "Seq", "Snapshot", "State", "Table"}) {
		t.Errorf("%q", names)
	}
	if n := reflect.TypeOf(delta.Store{}).NumField(); n == 0 {
		t.Error("nothing is kept")
	}
	for f := range reflect.TypeOf(delta.Store{}).Fields() {
		if f.IsExported() {
			t.Errorf("%s lies open", f.Name)
		}
	}
}

const top = 1 << 60

var (
	kinds    = []api.OpKind{math.MinInt, -1, 0, 1, 2, 3, 4, 257, math.MaxInt}
	numbers  = []int{math.MinInt, -1, 0, 1, 2, top - 1, top, top + 1, math.MaxInt}
	clients  = []int{math.MinInt, -1, 0, 1, 2, 15, 16, 17, 257, math.MaxInt}
	goodKeys = []string{"a", "\x01", "\xff", "s", "a\x00", "\xffs\x01", long(1023), long(1024), "\x01" + string(make([]byte, 1023))}
	badKeys  = []string{"", "\x00", "\x00a", "\x00s\x01", "\x00s\x11", long(1025), long(70000), "\x00" + long(1023), "\x00" + long(1024)}
	values   = []string{"", "x", "\x00", long(65535), long(65536), long(65537), long(1 << 20)}
)

// fault is what the chapter asks of an operation, one fault behind the other.
func fault(op api.Op) api.Errno {
	if !slices.Contains([]api.OpKind{1, 2, 3}, op.Kind) {
		return 80
	}
	if slices.Contains(badKeys, op.Key) {
		return 81
	}
	if len(op.Value) >= 65537 {
		return 82
	}
	if op.Kind == 2 && len(op.Value) != 0 {
		return 82
	}
	if op.Version < 0 || op.Version > 1<<60 {
		return 84
	}
	if (op.Kind == 1 || op.Kind == 2) && op.Version != 0 {
		return 84
	}
	return 0
}

// operations are all that can be made of the edges.
func operations() []api.Op {
	var l []api.Op
	for _, kind := range kinds {
		for _, key := range slices.Concat(goodKeys, badKeys) {
			for _, value := range values {
				for _, version := range numbers {
					l = append(l, api.Op{Kind: kind, Key: key, Value: value, Version: version})
				}
			}
		}
	}
	return l
}

func TestCheck(t *testing.T) {
	for i, c := range []struct { // the chapter's
		op   api.Op
		want api.Errno
	}{
		{api.Op{Kind: api.OpPut, Value: "x"}, 81},
		{api.Op{Kind: api.OpPut, Key: "\x00a"}, 81},
		{api.Op{Kind: api.OpDelete, Key: "a", Value: "x"}, 82},
		{api.Op{Kind: api.OpPut, Key: "a", Version: 1}, 84},
		{api.Op{}, 80},
	} {
		if got := delta.Check(c.op); got != c.want {
			t.Errorf("example %d: %d, want %d", i, got, c.want)
		}
	}
	seen := map[api.Errno]int{}
	for _, op := range operations() {
		want := fault(op)
		seen[want]++
		if got := delta.Check(op); got != want {
			t.Fatalf("Check(%s): %d, want %d", brief(api.Update{Op: op}), got, want)
		}
	}
	for _, e := range []api.Errno{0, 80, 81, 82, 84} {
		if seen[e] == 0 {
			t.Errorf("%d was never asked for", e)
		}
	}
}

// updates are numbers at their edges, each with operations that may be and with some that may not.
func updates() []api.Update {
	ops := []api.Op{
		{Kind: 1, Key: "a", Value: "x"}, {Kind: 2, Key: "b"}, {Kind: 3, Key: "c", Value: "", Version: top}, {Kind: 3, Key: long(1024), Value: long(65536)},
		{}, {Kind: 4, Key: "a"}, {Kind: 1}, {Kind: 2, Key: "a", Value: "x"}, {Kind: 2, Key: "a", Version: 1}, {Kind: 3, Key: "a", Version: top + 1},
	}
	var l []api.Update
	for _, seq := range numbers {
		for _, client := range clients {
			for _, number := range numbers {
				for _, op := range ops {
					l = append(l, api.Update{Seq: seq, Client: client, Number: number, Op: op})
				}
			}
		}
	}
	return l
}

func faultOfUpdate(u api.Update) api.Errno {
	if u.Seq <= 0 || u.Seq > 1<<60 {
		return 85
	}
	if u.Client <= 0 || u.Client >= 17 {
		return 83
	}
	if u.Number <= 0 || u.Number > 1<<60 {
		return 84
	}
	return fault(u.Op)
}

func TestCheckUpdate(t *testing.T) {
	for _, u := range updates() {
		if got, want := delta.CheckUpdate(u), faultOfUpdate(u); got != want {
			t.Fatalf("CheckUpdate(%s): %d, want %d", brief(u), got, want)
		}
	}
	for _, op := range operations() {
		u := api.Update{Seq: 1, Client: 1, Number: 1, Op: op}
		if got, want := delta.CheckUpdate(u), fault(op); got != want {
			t.Fatalf("CheckUpdate(%s): %d, want %d", brief(u), got, want)
		}
	}
}

func TestSession(t *testing.T) {
	for _, c := range clients {
		key, e := delta.Session(c)
		if c >= 1 && c <= 16 {
			if e != 0 || key != string([]byte{0, 0x73, byte(c)}) {
				t.Errorf("Session(%d): %q, %d", c, key, e)
			}
		} else if e != 83 || key != "" {
			t.Errorf("Session(%d): %q, %d", c, key, e)
		}
	}
	for c := 1; c <= 16; c++ {
		key, e := delta.Session(c)
		if e != 0 || len(key) != 3 || key[0] != 0 || key[1] != 0x73 || int(key[2]) != c {
			t.Errorf("Session(%d): %q, %d", c, key, e)
		}
	}
}

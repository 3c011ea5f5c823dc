package sender_test

import (
	"math"
	"testing"

	"hawser/api"
	"hawser/delta"
	"hawser/sender"
)

// R5: a sender that no call made changes nothing, and answers zero values.
func TestUnmade(t *testing.T) {
	refused, _ := sender.New(0, two(), small())
	over, _ := sender.New(1, &delta.Store{}, small())
	for name, x := range map[string]*sender.Sender{"nil": nil, "zero": {}, "new": new(sender.Sender), "refused": refused, "over a store that no call made": over} {
		for range 3 { // what was asked of it makes nothing of it
			tellsNothing(t, name, x)
		}
	}
}

func tellsNothing(t *testing.T, name string, x *sender.Sender) {
	t.Helper()
	for _, attempt := range []int{0, 1, -1, math.MaxInt} {
		for kind := api.Kind(-1); kind < 30; kind++ {
			if l, e := x.Take(api.Msg{Kind: kind, Attempt: attempt, Number: 1}); e != errMade || len(l) != 0 {
				t.Errorf("%s: Take kind %d of %d: %s, %d", name, kind, attempt, show(l), e)
			}
		}
	}
	for _, seq := range []int{math.MinInt, -1, 0, 1, 2, math.MaxInt} {
		if l, e := x.Offer(put(seq, "a", "b")); e != errMade || len(l) != 0 {
			t.Errorf("%s: Offer %d: %s, %d", name, seq, show(l), e)
		}
	}
	for range 5 {
		if l := x.Tick(); len(l) != 0 {
			t.Errorf("%s: Tick: %s", name, show(l))
		}
	}
	got, count := x.Got()
	if x.Attempt() != 0 || x.Phase() != api.PhaseIdle || x.Seq() != 0 || x.Caught() != 0 || x.Last() != 0 || got != 0 || count != 0 || x.Kept() != 0 {
		t.Errorf("%s: it tells something", name)
	}
}

// A sender over a store without rows is one that a call made.
func TestEmptyIsMade(t *testing.T) {
	p := begin(t, 1, delta.New(), small())
	goes(t, "open", p.take(open(1, 1, api.Token{})), opened(0))
	goes(t, "want", p.take(want(1, 0, 15)), chunk(0))
	goes(t, "the first update", p.next(1), later(1))
	p.take(got(1, 1))
	p.take(caught(1, 1, 1))
	goes(t, "the second one", p.next(1), later(2))
}

// A sender that was overwritten by none is as one that no call made; a store that was, behind New, is not seen.
func TestOverwritten(t *testing.T) {
	s := two()
	p := begin(t, 1, s, small())
	*s = delta.Store{}
	p.take(open(1, 1, api.Token{}))
	p.take(asks(1, 1, 6))
	goes(t, "want", p.take(want(1, 6)), chunk(0))
	*p.x = sender.Sender{}
	tellsNothing(t, "overwritten", p.x)
}

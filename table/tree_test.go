package table

import (
	"math/rand"
	"slices"
	"testing"
)

// What a tree promises those that use it, whatever its things are: here whole numbers, each as large as itself.

type whole int

func (w whole) place() int { return int(w) }

func (w whole) size() int { return int(w) }

type numbers = tree[int, whole]

func all(n *numbers) []whole {
	return slices.Collect(n.rising(func(int) int { return 0 }))
}

// sound: heights, counts and sizes are right, heights differ by one at most, and places rise.
func sound(t *testing.T, n *numbers) {
	t.Helper()
	if l := all(n); !slices.IsSortedFunc(l, func(a, b whole) int { return int(a - b) }) || len(slices.Compact(slices.Clone(l))) != len(l) {
		t.Fatalf("places do not rise: %v", l)
	}
	measured(t, n)
}

func measured(t *testing.T, n *numbers) (high, many, bytes int) {
	t.Helper()
	if n == nil {
		return 0, 0, 0
	}
	lh, lm, lb := measured(t, n.left)
	rh, rm, rb := measured(t, n.right)
	high, many, bytes = max(lh, rh)+1, lm+1+rm, lb+int(n.item)+rb
	if lh > rh+1 || rh > lh+1 {
		t.Fatalf("heights %d and %d", lh, rh)
	}
	if n.height() != high || n.count() != many || n.size() != bytes {
		t.Fatalf("%d high, %d things, %d bytes; want %d, %d, %d", n.height(), n.count(), n.size(), high, many, bytes)
	}
	return high, many, bytes
}

// upTo: a tree of the numbers from a on, up to ahead of b, put in an order that hangs on r.
func upTo(r *rand.Rand, a, b int) *numbers {
	if r.Intn(3) == 0 {
		var l []whole
		for i := a; i < b; i++ {
			l = append(l, whole(i))
		}
		return grow[int](l)
	}
	var n *numbers
	for _, i := range r.Perm(b - a) {
		n = n.put(whole(a + i))
	}
	return n
}

func TestTreesStayLevel(t *testing.T) {
	r := rand.New(rand.NewSource(61))
	for _, order := range []func(int) int{
		func(i int) int { return i },
		func(i int) int { return 300 - i },
		func(i int) int { return i * 7 % 301 },
		func(int) int { return r.Intn(301) },
	} {
		var n *numbers
		for i := range 301 {
			n = n.put(whole(order(i)))
			sound(t, n)
		}
		for i := range 301 {
			n = n.without(order(i))
			sound(t, n)
		}
	}
	for range 3000 {
		var n *numbers
		for range r.Intn(40) {
			if i := r.Intn(30); r.Intn(3) == 0 {
				n = n.without(i)
			} else {
				n = n.put(whole(i))
			}
		}
		sound(t, n)
	}
}

func TestGrow(t *testing.T) {
	var l []whole
	for i := range 260 {
		n := grow[int](l)
		sound(t, n)
		if !slices.Equal(all(n), l) {
			t.Fatalf("%v, want %v", all(n), l)
		}
		l = append(l, whole(3*i))
	}
}

// Trees of all kinds of heights laid one behind the other, with and without a thing between; and taken apart at each place.
func TestJoinAndSplit(t *testing.T) {
	r := rand.New(rand.NewSource(62))
	for range 1500 {
		a, b := 1<<r.Intn(9), 1<<r.Intn(9)
		a, b = r.Intn(a), r.Intn(b)
		l, x, m := upTo(r, 0, a), whole(a), upTo(r, a+1, a+1+b)
		n := join(l, x, m)
		sound(t, n)
		if n.count() != a+1+b || all(n)[a] != x {
			t.Fatalf("join of %d and %d: %v", a, b, all(n))
		}
		if n.height() > max(l.height(), m.height())+1 {
			t.Fatalf("join of heights %d and %d: %d", l.height(), m.height(), n.height())
		}
		n = link(l, m)
		sound(t, n)
		if !slices.Equal(all(n), append(all(l), all(m)...)) {
			t.Fatalf("link of %d and %d: %v", a, b, all(n))
		}
		at := r.Intn(a+b+4) - 1
		less, same, more := n.split(at)
		ahead, rest := n.cut(at)
		for _, p := range []*numbers{less, more, ahead, rest} {
			sound(t, p)
		}
		i, there := slices.BinarySearch(all(n), whole(at))
		if !slices.Equal(all(less), all(n)[:i]) || !slices.Equal(all(ahead), all(n)[:i]) || !slices.Equal(all(rest), all(n)[i:]) {
			t.Fatalf("cut at %d of %v: %v, %v", at, all(n), all(ahead), all(rest))
		}
		if (same != nil) != there || there && (int(same.item) != at || !slices.Equal(all(more), all(n)[i+1:])) || !there && !slices.Equal(all(more), all(n)[i:]) {
			t.Fatalf("split at %d of %v", at, all(n))
		}
	}
}

// Each two trees whose heights differ by two at most, among them those whose halves are of one height.
func TestLevel(t *testing.T) {
	r := rand.New(rand.NewSource(64))
	for a := range 34 {
		for b := range 34 {
			for range 4 {
				l, m := upTo(r, 0, a), upTo(r, a+1, a+1+b)
				if d := l.height() - m.height(); d < -2 || d > 2 {
					continue
				}
				n := level(l, whole(a), m)
				sound(t, n)
				if n.count() != a+1+b {
					t.Fatalf("level of %d and %d: %v", a, b, all(n))
				}
			}
		}
	}
}

// partsOf: the addresses of all parts of a tree.
func partsOf(n *numbers, l map[*numbers]numbers) map[*numbers]numbers {
	if n != nil {
		l[n] = *n
		partsOf(n.left, l)
		partsOf(n.right, l)
	}
	return l
}

// A change makes new parts along one way alone, shares all others, and changes none.
func TestShared(t *testing.T) {
	r := rand.New(rand.NewSource(63))
	for range 300 {
		n := upTo(r, 0, 1+r.Intn(2000))
		old := partsOf(n, map[*numbers]numbers{})
		i := r.Intn(2 * n.count())
		for name, x := range map[string]*numbers{"put": n.put(whole(i)), "without": n.without(i)} {
			fresh := 0
			for p := range partsOf(x, map[*numbers]numbers{}) {
				if _, ok := old[p]; !ok {
					fresh++
				}
			}
			if fresh > 3*n.height()+1 {
				t.Fatalf("%s: %d new parts of a tree %d high", name, fresh, n.height())
			}
		}
		for p, was := range old {
			if *p != was {
				t.Fatalf("a part that is shared has changed: %v, was %v", *p, was)
			}
		}
	}
}

// What two trees share is not gone over.
func TestSharedIsSkipped(t *testing.T) {
	var l []whole
	for i := range 1 << 15 {
		l = append(l, whole(i))
	}
	a := grow[int](l)
	b := a.put(whole(1 << 20)).without(77)
	n := testing.AllocsPerRun(5, func() {
		if got := slices.Collect(unlike(a, b)); !slices.Equal(got, []whole{77, 1 << 20}) {
			t.Fatalf("%v", got)
		}
	})
	if n > 2000 {
		t.Errorf("%v allocations", n)
	}
}

package pack_test

import (
	"bytes"
	"fmt"
	"math/rand"
	"slices"
	"strings"
	"testing"

	"hawser/api"
	"hawser/leb"
	"hawser/pack"
)

// common: with how many bytes both texts begin, by trying.
func common(s, t string) int {
	n := 0
	for n < len(s) && strings.HasPrefix(t, s[:n+1]) {
		n++
	}
	return n
}

// rawText: a text's bytes, whether it may be or not.
func rawText(shared int, rest string) []byte {
	return append(leb.Encode(uint64(shared)), textBytes(rest)...)
}

// rawTexts: a list's bytes, from those of its texts.
func rawTexts(texts ...[]byte) []byte {
	return append(leb.Encode(uint64(len(texts))), bytes.Join(texts, nil)...)
}

// textsByWords is P3.3's Texts word by word.
func textsByWords(l []string) ([]byte, api.Errno) {
	if len(l) > 1<<20 {
		return nil, api.ErrPackLong
	}
	b, total := leb.Encode(uint64(len(l))), 0
	for i, s := range l {
		n := 0
		if len(s) > 65536 {
			return nil, api.ErrPackLong
		}
		if i > 0 {
			if strings.Compare(l[i-1], s) >= 0 {
				return nil, api.ErrPackOrder
			}
			n = common(l[i-1], s)
		}
		if total += len(s); total > 1<<28 {
			return nil, api.ErrPackLong
		}
		b = append(b, rawText(n, s[n:])...)
	}
	return b, api.OK
}

// openByWords is P3.3's Open word by word.
func openByWords(b []byte) ([]string, api.Errno) {
	count, at, e := takeByWords(b, ask{aCount, 1 << 20, 2})
	if e != api.OK {
		return nil, e
	}
	var l []string
	ahead, total := "", 0
	for i := range count.v {
		n, m, e := intByWords(b[at:], 65536)
		if e != api.OK {
			return nil, e
		}
		if n > len(ahead) {
			return nil, api.ErrPackForm
		}
		rest, k, e := textByWords(b[at+m:], 65536)
		if e != api.OK {
			return nil, e
		}
		s := ahead[:n] + rest
		if total += len(s); len(s) > 65536 || total > 1<<28 {
			return nil, api.ErrPackLong
		}
		if common(ahead, s) != n {
			return nil, api.ErrPackForm
		}
		if i > 0 && strings.Compare(ahead, s) >= 0 {
			return nil, api.ErrPackOrder
		}
		l, ahead, at = append(l, s), s, at+m+k
	}
	if at < len(b) {
		return nil, api.ErrPackTail
	}
	return l, api.OK
}

// windows: so many texts that rise, each of MaxValue bytes; all of them are pieces of one.
func windows(n int) []string {
	s := times(65536, 'a') + times(n, 'b')
	l := make([]string, n)
	for i := range l {
		l[i] = s[i : i+65536]
	}
	return l
}

// numbers: so many short texts that rise.
func numbers(n int) []string {
	l := make([]string, n)
	for i := range l {
		l[i] = string([]byte{byte(i >> 16), byte(i >> 8), byte(i)})
	}
	return l
}

// P3.3

func TestTexts(t *testing.T) {
	long := times(65536, 'x')
	for name, c := range map[string]struct {
		l    []string
		want []byte
	}{
		"example 5":       {[]string{"a", "ab", "b"}, []byte{3, 0, 1, 'a', 1, 1, 'b', 0, 1, 'b'}},
		"none":            {nil, []byte{0}},
		"none, not nil":   {[]string{}, []byte{0}},
		"an empty one":    {[]string{""}, []byte{1, 0, 0}},
		"empty and other": {[]string{"", "\x00"}, []byte{2, 0, 0, 0, 1, 0}},
		"one":             {[]string{"ab"}, []byte{1, 0, 2, 'a', 'b'}},
		"all is shared":   {[]string{"ab", "abc", "abcde"}, []byte{3, 0, 2, 'a', 'b', 2, 1, 'c', 3, 2, 'd', 'e'}},
		"ahead is longer": {[]string{"abcd", "abd"}, []byte{2, 0, 4, 'a', 'b', 'c', 'd', 2, 1, 'd'}},
		"bytes above 127": {[]string{"\x7f", "\x80", "\xff"}, []byte{3, 0, 1, 0x7f, 0, 1, 0x80, 0, 1, 0xff}},
		"shared of 300":   {[]string{times(300, 'a'), times(300, 'a') + "b"}, rawTexts(rawText(0, times(300, 'a')), rawText(300, "b"))},
		"MaxValue":        {[]string{long}, rawTexts(rawText(0, long))},
		"MaxValue - 1":    {[]string{long[1:], long}, rawTexts(rawText(0, long[1:]), rawText(65535, "x"))},
	} {
		if b, e := pack.Texts(c.l...); e != api.OK || !bytes.Equal(b, c.want) {
			t.Errorf("%s: %.40x, %d, want %.40x", name, b, e, c.want)
		}
		if l, e := pack.Open(c.want); e != api.OK || !slices.Equal(l, c.l) {
			t.Errorf("%s: Open: %.40q, %d", name, l, e)
		}
	}
}

func TestTextsErrors(t *testing.T) {
	long := times(65537, 'b')
	for name, c := range map[string]struct {
		l    []string
		want api.Errno
	}{
		"falling":                    {[]string{"b", "a"}, api.ErrPackOrder},
		"equal":                      {[]string{"a", "a"}, api.ErrPackOrder},
		"equal and empty":            {[]string{"", ""}, api.ErrPackOrder},
		"a beginning":                {[]string{"ab", "a"}, api.ErrPackOrder},
		"an empty one behind others": {[]string{"a", ""}, api.ErrPackOrder},
		"by bytes without signs":     {[]string{"\x80", "\x7f"}, api.ErrPackOrder},
		"falling at the end":         {[]string{"a", "b", "c", "bz"}, api.ErrPackOrder},
		"too long":                   {[]string{long}, api.ErrPackLong},
		"too long behind others":     {[]string{"a", long}, api.ErrPackLong},
		"too long, and falling":      {[]string{"c", long}, api.ErrPackLong},
		"falling ahead of too long":  {[]string{"c", "b", long}, api.ErrPackOrder},
		"too long ahead of falling":  {[]string{long, "a"}, api.ErrPackLong},
	} {
		if b, e := pack.Texts(c.l...); e != c.want || len(b) != 0 {
			t.Errorf("%s: %.40x, %d, want %d", name, b, e, c.want)
		}
	}
}

func TestOpenErrors(t *testing.T) {
	long := times(65536, 'a')
	first := rawText(0, long)
	for name, c := range map[string]struct {
		b    []byte
		want api.Errno
	}{
		"no bytes":                       {nil, api.ErrPackShort},
		"empty":                          {[]byte{}, api.ErrPackShort},
		"half a count":                   {[]byte{0x80}, api.ErrPackShort},
		"a count's form":                 {[]byte{0x81, 0, 0, 0}, api.ErrPackForm},
		"a count above 64 bits":          {nines(0xff, 2), api.ErrPackLong},
		"too many":                       {leb.Encode(1<<20 + 1), api.ErrPackLong},
		"many, without bytes":            {leb.Encode(1 << 20), api.ErrPackShort},
		"one without bytes":              {[]byte{1}, api.ErrPackShort},
		"one with one byte":              {[]byte{1, 0}, api.ErrPackShort},
		"three with two bytes each less": {[]byte{3, 0, 1, 'a', 1, 1}, api.ErrPackShort},
		// The count is looked at ahead of the texts.
		"short, and a first text that shares": {[]byte{2, 1, 0, 0}, api.ErrPackShort},

		"shared is half a number":    {[]byte{1, 0x80, 0x80}, api.ErrPackShort},
		"shared's form":              {[]byte{1, 0x80, 0, 0}, api.ErrPackForm},
		"shared above MaxValue":      {append([]byte{1}, rawText(65537, "")...), api.ErrPackLong},
		"shared by the first":        {[]byte{1, 1, 0}, api.ErrPackForm},
		"shared MaxValue, the first": {append([]byte{1}, rawText(65536, "")...), api.ErrPackForm},
		"shared more than is there":  {[]byte{2, 0, 1, 'a', 2, 1, 'b'}, api.ErrPackForm},
		"shared more, rest short":    {[]byte{1, 1, 9}, api.ErrPackForm},
		"rest short":                 {[]byte{1, 0, 2, 'a'}, api.ErrPackShort},
		"rest's form":                {[]byte{1, 0, 0x81, 0, 'a'}, api.ErrPackForm},
		"rest above MaxValue":        {rawTexts(rawText(0, long+"a")), api.ErrPackLong},
		"rest above it, short":       {append([]byte{1, 0}, leb.Encode(65537)...), api.ErrPackLong},
		"rest is half a number":      {[]byte{1, 0, 0x80}, api.ErrPackShort},

		"text above MaxValue":             {rawTexts(first, rawText(65536, "b")), api.ErrPackLong},
		"text above it, shared too few":   {rawTexts(first, rawText(65535, "ab")), api.ErrPackLong},
		"shared too few":                  {[]byte{2, 0, 1, 'a', 0, 2, 'a', 'b'}, api.ErrPackForm},
		"shared one too few":              {rawTexts(rawText(0, "abc"), rawText(1, "bd")), api.ErrPackForm},
		"shared too few, falling":         {rawTexts(rawText(0, "ab"), rawText(0, "aa")), api.ErrPackForm},
		"shared too few, a beginning":     {rawTexts(rawText(0, "ab"), rawText(0, "a")), api.ErrPackForm},
		"shared too few, equal":           {rawTexts(rawText(0, "ab"), rawText(1, "b")), api.ErrPackForm},
		"falling":                         {rawTexts(rawText(0, "b"), rawText(0, "a")), api.ErrPackOrder},
		"falling behind shared":           {rawTexts(rawText(0, "ac"), rawText(1, "b")), api.ErrPackOrder},
		"equal":                           {rawTexts(rawText(0, "ab"), rawText(2, "")), api.ErrPackOrder},
		"equal and empty":                 {[]byte{2, 0, 0, 0, 0}, api.ErrPackOrder},
		"a beginning":                     {rawTexts(rawText(0, "ab"), rawText(1, "")), api.ErrPackOrder},
		"an empty one behind others":      {rawTexts(rawText(0, "ab"), rawText(0, "")), api.ErrPackOrder},
		"bytes without signs":             {rawTexts(rawText(0, "\x80"), rawText(0, "\x7f")), api.ErrPackOrder},
		"falling, then short":             {append(rawTexts(rawText(0, "b"), rawText(0, "a"), []byte{}), 0, 9), api.ErrPackOrder},
		"falling, and a tail":             {append(rawTexts(rawText(0, "b"), rawText(0, "a")), 0), api.ErrPackOrder},
		"a tail":                          {append(rawTexts(rawText(0, "a")), 0), api.ErrPackTail},
		"a tail behind none":              {[]byte{0, 0}, api.ErrPackTail},
		"a tail behind an empty one":      {[]byte{1, 0, 0, 0xff}, api.ErrPackTail},
		"the second text is short at all": {[]byte{2, 0, 2, 'a', 'b'}, api.ErrPackShort},
	} {
		if l, e := pack.Open(c.b); e != c.want || len(l) != 0 {
			t.Errorf("%s: %.40q, %d, want %d", name, l, e, c.want)
		}
		if _, e := openByWords(c.b); e != c.want {
			t.Errorf("%s: word by word %d, want %d", name, e, c.want)
		}
	}
}

func TestTextsOfMaxRows(t *testing.T) {
	l := numbers(1<<20 + 1)
	for _, n := range []int{1<<20 - 1, 1 << 20} {
		b, e := pack.Texts(l[:n]...)
		if e != api.OK {
			t.Fatalf("%d texts: %d", n, e)
		}
		if back, e := pack.Open(b); e != api.OK || !slices.Equal(back, l[:n]) {
			t.Errorf("Open of %d texts: %d, %d", n, len(back), e)
		}
	}
	if b, e := pack.Texts(l...); e != api.ErrPackLong || len(b) != 0 {
		t.Errorf("too many texts: %d bytes, %d", len(b), e)
	}
	// How many there are is looked at ahead of them.
	l[0], l[1] = l[1], l[0]
	if b, e := pack.Texts(l...); e != api.ErrPackLong || len(b) != 0 {
		t.Errorf("too many texts that do not rise: %d bytes, %d", len(b), e)
	}
	if b, e := pack.Texts(l[:1<<20]...); e != api.ErrPackOrder || len(b) != 0 {
		t.Errorf("as many texts as may be, which do not rise: %d bytes, %d", len(b), e)
	}
	many := append(leb.Encode(1<<20+1), make([]byte, 1<<22)...)
	if back, e := pack.Open(many); e != api.ErrPackLong || len(back) != 0 {
		t.Errorf("Open of too many texts: %d, %d", len(back), e)
	}
}

// rawWindows: the bytes of windows(n), and the bytes of others behind them.
func rawWindows(n int, more ...[]byte) []byte {
	texts := make([][]byte, n, n+len(more))
	for i := range texts {
		if i == 0 {
			texts[i] = rawText(0, times(65536, 'a'))
		} else {
			texts[i] = rawText(65536-i, times(i, 'b'))
		}
	}
	return rawTexts(append(texts, more...)...)
}

func TestTextsOfMaxImage(t *testing.T) {
	l := windows(4097)
	at := l[:4096]
	if b, e := pack.Texts(at...); e != api.OK || !bytes.Equal(b, rawWindows(4096)) {
		t.Errorf("MaxImage bytes: %d, %d", len(b), e)
	}
	for name, c := range map[string]struct {
		l    []string
		want api.Errno
	}{
		"a text more":                       {l, api.ErrPackLong},
		"a byte more":                       {slices.Concat([]string{"a"}, at), api.ErrPackLong},
		"a byte more, behind":               {slices.Concat(at, []string{"b"}), api.ErrPackLong},
		"a byte more, which falls":          {slices.Concat(at, []string{"a"}), api.ErrPackOrder},
		"a text more, too long":             {slices.Concat(at, []string{times(65537, 'a')}), api.ErrPackLong},
		"a byte more, and one behind falls": {slices.Concat(at, []string{"b", "a"}), api.ErrPackLong},
	} {
		if b, e := pack.Texts(c.l...); e != c.want || len(b) != 0 {
			t.Errorf("%s: %d bytes, %d, want %d", name, len(b), e, c.want)
		}
	}
}

func TestOpenOfMaxImage(t *testing.T) {
	want := windows(4096)
	for _, c := range []struct {
		n    int
		more [][]byte
		l    []string
	}{
		{4096, nil, want},
		{4095, [][]byte{rawText(0, times(65535, 'b'))}, append(slices.Clone(want[:4095]), times(65535, 'b'))},
	} {
		if l, e := pack.Open(rawWindows(c.n, c.more...)); e != api.OK || !slices.Equal(l, c.l) {
			t.Errorf("%d texts and %d more: %d, %d", c.n, len(c.more), len(l), e)
		}
	}
	for name, c := range map[string]struct {
		more []byte
		want api.Errno
	}{
		"a text more":                 {rawText(65536-4096, times(4096, 'b')), api.ErrPackLong},
		"a byte more":                 {rawText(0, "b"), api.ErrPackLong},
		"a byte more, which falls":    {rawText(0, "A"), api.ErrPackLong},
		"a byte more, shared too few": {rawText(0, "a"), api.ErrPackLong},
		"a text more, above MaxValue": {rawText(65536, "b"), api.ErrPackLong},
		"a byte more, short":          {[]byte{0, 2, 'b'}, api.ErrPackShort},
		"none more, which falls":      {rawText(0, ""), api.ErrPackOrder},
	} {
		if l, e := pack.Open(rawWindows(4096, c.more)); e != c.want || len(l) != 0 {
			t.Errorf("%s: %d, %d, want %d", name, len(l), e, c.want)
		}
	}
}

// eachList calls f with every list of up to n of the texts.
func eachList(texts []string, n int, f func(l []string)) {
	var grow func(l []string)
	grow = func(l []string) {
		f(l)
		if len(l) == n {
			return
		}
		for _, s := range texts {
			grow(append(slices.Clip(l), s))
		}
	}
	grow(nil)
}

// P3.5

func TestTextsByWords(t *testing.T) {
	texts := []string{"", "\x00", "a", "aa", "ab", "aba", "b", "ba", "\xff"}
	seen := map[string]string{}
	eachList(texts, 4, func(l []string) {
		b, e := pack.Texts(l...)
		if want, wantErr := textsByWords(l); e != wantErr || !bytes.Equal(b, want) {
			t.Fatalf("Texts(%q) = %x, %d, want %x, %d", l, b, e, want, wantErr)
		}
		if e != api.OK {
			return
		}
		if back, e := pack.Open(b); e != api.OK || !slices.Equal(back, l) {
			t.Fatalf("Open of Texts(%q) = %q, %d", l, back, e)
		}
		if other, ok := seen[string(b)]; ok {
			t.Fatalf("%q and %s have the same bytes", l, other)
		}
		seen[string(b)] = fmt.Sprintf("%q", l)
	})
}

// openedByWords holds Open of b against the document's words, and Texts of its answer against b.
func openedByWords(t *testing.T, b []byte) api.Errno {
	l, e := pack.Open(b)
	if want, wantErr := openByWords(b); e != wantErr || !slices.Equal(l, want) {
		t.Fatalf("Open(%x) = %q, %d, want %q, %d", b, l, e, want, wantErr)
	}
	if e == api.OK {
		if again, e := pack.Texts(l...); e != api.OK || !bytes.Equal(again, b) {
			t.Fatalf("Texts of Open(%x) = %x, %d", b, again, e)
		}
	}
	return e
}

func TestOpenByWords(t *testing.T) {
	met := map[api.Errno]int{}
	var grow func(b []byte, n int)
	grow = func(b []byte, n int) {
		met[openedByWords(t, b)]++
		for c := range byte(3) {
			if n > 0 {
				grow(append(slices.Clip(b), c), n-1)
			}
		}
	}
	grow(nil, 10)
	r := rand.New(rand.NewSource(6))
	for range 50000 {
		met[openedByWords(t, someBytes(r, 30))]++
	}
	for _, e := range []api.Errno{api.OK, api.ErrPackShort, api.ErrPackLong, api.ErrPackForm, api.ErrPackOrder, api.ErrPackTail} {
		if met[e] < 20 {
			t.Errorf("error %d came %d times only", e, met[e])
		}
	}
}

// Lists that may be, with one byte of theirs changed, left out or put in.
func TestOpenOfSpoiltBytes(t *testing.T) {
	r := rand.New(rand.NewSource(7))
	for range 20000 {
		l := make([]string, r.Intn(8))
		for i := range l {
			l[i] = strings.Repeat("ab", r.Intn(3)) + someText(r, r.Intn(3))
		}
		slices.Sort(l)
		b, e := pack.Texts(slices.Compact(l)...)
		if e != api.OK {
			t.Fatalf("Texts(%q): %d", l, e)
		}
		at := r.Intn(len(b))
		openedByWords(t, b)
		openedByWords(t, b[:at])
		openedByWords(t, slices.Concat(b[:at], b[at+1:]))
		openedByWords(t, slices.Concat(b[:at], []byte{byte(r.Intn(4))}, b[at:]))
		openedByWords(t, slices.Concat(b[:at], []byte{byte(r.Intn(256))}, b[at+1:]))
	}
}

// R3

func TestTextsLeaveTheirArguments(t *testing.T) {
	l := []string{"a", "ab", "b", "x", "y"}
	before := slices.Clone(l)
	b, _ := pack.Texts(l[:3]...)
	pack.Texts(l[1:]...)
	if !slices.Equal(l, before) {
		t.Errorf("the texts became %q", l)
	}
	clear(l)
	want := []byte{3, 0, 1, 'a', 1, 1, 'b', 0, 1, 'b'}
	if !bytes.Equal(b, want) {
		t.Errorf("the bytes became %x", b)
	}
	other, _ := pack.Texts(before[:3]...)
	clear(b[:cap(b)])
	if !bytes.Equal(other, want) {
		t.Error("two answers share memory")
	}
}

func TestOpenLeavesItsArgument(t *testing.T) {
	room := []byte{2, 0, 1, 'a', 1, 1, 'b', 0, 1, 'b'}
	before := bytes.Clone(room)
	for n := range len(room) + 1 {
		pack.Open(room[:n])
		if !bytes.Equal(room, before) {
			t.Fatalf("the bytes became %x", room)
		}
	}
	if _, e := pack.Open(room[:6]); e != api.ErrPackShort {
		t.Errorf("the room behind the end was taken up: %d", e)
	}
	l, _ := pack.Open(room[:7])
	other, e := pack.Open(room[:7])
	clear(room)
	if want := []string{"a", "ab"}; e != api.OK || !slices.Equal(l, want) {
		t.Errorf("changed by the caller: %q, %d", l, e)
	}
	clear(l[:cap(l)])
	if !slices.Equal(other, []string{"a", "ab"}) {
		t.Error("two answers share memory")
	}
}

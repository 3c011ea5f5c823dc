package delta_test

import (
	"bytes"
	"math/rand"
	"slices"
	"strings"
	"testing"

	"hawser/api"
	"hawser/delta"
)

// samples are updates of each kind, of the least and the greatest parts.
func samples() []api.Update {
	return []api.Update{
		put(1, "a", "x"),
		update(1, 1, 1, 1, "a", "", 0),
		update(300, 2, 1, 2, "a", "", 0),
		update(127, 16, 128, 3, "ab", "xyz", 0),
		update(16384, 3, 16383, 3, "\xff\x00", "\x00\x80", 129),
		update(top, 16, top, 1, "k", "v", 0),
		update(top, 16, top, 2, long(1024), "", 0),
		update(top, 16, top, 3, long(200), long(128), top),
		update(1, 1, 1, 1, long(1024), long(65536), 0),
		update(top, 16, top, 3, long(1024), long(65536), top),
	}
}

// refused says that bytes are no update.
func refused(t *testing.T, why string, b string) {
	t.Helper()
	if u, e := delta.Decode([]byte(b)); e != 86 || u != (api.Update{}) {
		t.Errorf("%s: Decode(%.40x): %s, %d", why, b, brief(u), e)
	}
}

func TestEncodeExamples(t *testing.T) {
	for i, c := range []struct {
		u    api.Update
		want string
	}{
		{put(1, "a", "x"), "\x01\x01\x01\x01\x01\x61\x01\x78"},
		{update(300, 2, 1, 2, "a", "", 0), "\xac\x02\x02\x01\x02\x01\x61"},
		{update(1, 16, 128, 3, "a", "", 300), "\x01\x10\x80\x01\x03\x01\x61\x00\xac\x02"},
	} {
		if b, e := delta.Encode(c.u); e != 0 || string(b) != c.want {
			t.Errorf("%d: Encode: %x, %d", i, b, e)
		}
		if u, e := delta.Decode([]byte(c.want)); e != 0 || u != c.u {
			t.Errorf("%d: Decode: %v, %d", i, u, e)
		}
	}
	refused(t, "a byte behind", "\x01\x01\x01\x01\x01\x61\x01\x78\x00")
	refused(t, "no bytes", "")
	if u, e := delta.Decode(nil); e != 86 || u != (api.Update{}) {
		t.Errorf("nil: %v, %d", u, e)
	}
}

func thereAndBack(t *testing.T, u api.Update) {
	t.Helper()
	b, e := delta.Encode(u)
	if e != 0 || string(b) != form(u) {
		t.Fatalf("Encode(%s): %.40x, %d, want %.40x", brief(u), b, e, form(u))
	}
	if got, e := delta.Decode(b); e != 0 || got != u {
		t.Fatalf("Decode(%.40x): %s, %d, want %s", b, brief(got), e, brief(u))
	}
}

func TestThereAndBack(t *testing.T) {
	for _, u := range samples() {
		thereAndBack(t, u)
	}
	r := rand.New(rand.NewSource(81))
	for range 20000 {
		thereAndBack(t, anything(r))
	}
}

func TestEncodeRefuses(t *testing.T) {
	for _, u := range updates() {
		want := faultOfUpdate(u)
		b, e := delta.Encode(u)
		if e != want || (len(b) == 0) != (want != 0) {
			t.Fatalf("Encode(%s): %d bytes, %d, want %d", brief(u), len(b), e, want)
		}
	}
	for _, op := range operations() {
		u := api.Update{Seq: 1, Client: 1, Number: 1, Op: op}
		want := fault(op)
		b, e := delta.Encode(u)
		if e != want || (len(b) == 0) != (want != 0) {
			t.Fatalf("Encode(%s): %d bytes, %d, want %d", brief(u), len(b), e, want)
		}
		if e == 0 && string(b) != form(u) {
			t.Fatalf("Encode(%s): other bytes", brief(u))
		}
	}
}

func TestDecodeCut(t *testing.T) {
	for _, u := range samples() {
		b := form(u)
		step := 1 + len(b)/500
		for n := 0; n < len(b); n += step {
			refused(t, "cut", b[:n])
		}
		refused(t, "cut by a byte", b[:len(b)-1])
		for c := range 256 {
			refused(t, "a byte behind", b+string([]byte{byte(c)}))
		}
		refused(t, "twice", b+b)
		refused(t, "much behind", b+long(1<<17))
	}
}

// padded is a number of a byte more than it needs.
func padded(s string) string {
	return s[:len(s)-1] + string([]byte{s[len(s)-1] + 128, 0})
}

// heads is how many bytes of a part are a number.
func heads(part string) int {
	return 1 + strings.IndexFunc(part, func(c rune) bool { return c < 128 })
}

func TestDecodeShortestAlone(t *testing.T) {
	for _, u := range samples() {
		for i, p := range parts(u) {
			l := parts(u)
			n := heads(p)
			l[i] = padded(p[:n]) + p[n:]
			refused(t, "a number that is too long", strings.Join(l, ""))
			l[i] = padded(padded(p[:n])) + p[n:]
			refused(t, "a number that is much too long", strings.Join(l, ""))
			for _, high := range []string{"\xff\xff\xff\xff\xff\xff\xff\xff\xff\x01", "\x80\x80\x80\x80\x80\x80\x80\x80\x80\x01", "\xff\xff\xff\xff\xff\xff\xff\xff\x7f", "\xff\xff\xff\xff\xff\xff\xff\xff\xff\x02", strings.Repeat("\x80", 12)} {
				l[i] = high + p[n:]
				refused(t, "a number that is too great", strings.Join(l, ""))
			}
		}
	}
}

// What is no update, though its bytes are laid down as one's are.
func TestDecodeFaults(t *testing.T) {
	for _, u := range updates() {
		if u.Seq < 0 || u.Client < 0 || u.Number < 0 {
			continue // no number's bytes say so
		}
		b := form(u)
		if whole, e := delta.Decode([]byte(b)); e == 0 && form(whole) != b {
			t.Fatalf("Decode(%.40x): %s", b, brief(whole))
		}
		if e := faultOfUpdate(u); e != 0 && (u.Op.Kind == 3 || u.Op.Version == 0) && (u.Op.Kind != 2 || u.Op.Value == "") {
			refused(t, "an update that may not be", b)
		}
	}
	for _, kind := range []api.OpKind{0, 1, 2, 3, 4, 128} {
		for _, key := range badKeys {
			refused(t, "a key that no client may name", form(update(1, 1, 1, kind, key, "", 0)))
		}
	}
	for _, kind := range []api.OpKind{1, 3} {
		refused(t, "a value that is too long", form(update(1, 1, 1, kind, "a", long(65537), 0)))
	}
	refused(t, "a version that is too great", form(update(1, 1, 1, 3, "a", "", top+1)))
	refused(t, "a put with a version", form(update(1, 1, 1, 1, "a", "x", 0))+"\x01")
	refused(t, "a put with a version of 0", form(update(1, 1, 1, 1, "a", "x", 0))+"\x00")
	refused(t, "a cas without a version", form(update(1, 1, 1, 3, "a", "x", 0))[:8])
	refused(t, "a delete with a value", form(update(1, 1, 1, 2, "a", "", 0))+"\x01x")
	refused(t, "a delete with an empty value", form(update(1, 1, 1, 2, "a", "", 0))+"\x00")
	refused(t, "a key that ends too early", "\x01\x01\x01\x02\x02a")
	refused(t, "a key that ends much too early", "\x01\x01\x01\x02\x80\x08a")
	refused(t, "a value that ends too early", "\x01\x01\x01\x01\x01a\x02x")
	refused(t, "a value that ends much too early", "\x01\x01\x01\x01\x01a\x80\x80\x04x")
}

// oneForm: bytes are no update, or just those of the update that is read.
func oneForm(t *testing.T, b []byte) {
	t.Helper()
	u, e := delta.Decode(b)
	if e == 86 && u == (api.Update{}) {
		return
	}
	if e != 0 || delta.CheckUpdate(u) != 0 {
		t.Fatalf("Decode(%.40x): %s, %d", b, brief(u), e)
	}
	if again, e := delta.Encode(u); e != 0 || !bytes.Equal(again, b) {
		t.Fatalf("Decode(%.40x): %s, which is %.40x", b, brief(u), again)
	}
}

func TestDecodeOneForm(t *testing.T) {
	for _, u := range samples()[:6] {
		b := []byte(form(u))
		for i := range b {
			for c := range 256 {
				other := slices.Clone(b)
				other[i] = byte(c)
				oneForm(t, other)
				oneForm(t, slices.Insert(slices.Clone(b), i, byte(c)))
			}
			oneForm(t, slices.Delete(slices.Clone(b), i, i+1))
		}
	}
	r := rand.New(rand.NewSource(82))
	for range 200000 {
		b := make([]byte, r.Intn(14))
		for i := range b {
			b[i] = byte(r.Intn(5))
		}
		oneForm(t, b)
		r.Read(b)
		oneForm(t, b)
	}
}

func FuzzDecode(f *testing.F) {
	for _, u := range samples()[:8] {
		f.Add([]byte(form(u)))
	}
	f.Fuzz(func(t *testing.T, b []byte) { oneForm(t, b) })
}

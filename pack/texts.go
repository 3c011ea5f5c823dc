package pack

import "hawser/api"

// textBytes: a text of a list has no fewer, one of each of its two numbers.
const textBytes = 2

// Texts answers the bytes of texts that rise.
func Texts(l ...string) ([]byte, api.Errno) {
	var w Writer
	w.Int(len(l), api.MaxRows)
	ahead, total := "", 0
	for i, s := range l {
		w.must(len(s) <= api.MaxValue, api.ErrPackLong)
		w.must(i == 0 || s > ahead, api.ErrPackOrder)
		total += len(s)
		if !w.must(total <= api.MaxImage, api.ErrPackLong) {
			break
		}
		n := shared(ahead, s)
		w.Int(n, api.MaxValue)
		w.Text(s[n:], api.MaxValue)
		ahead = s
	}
	return w.Bytes()
}

// Open answers the texts of these bytes.
func Open(b []byte) ([]string, api.Errno) {
	r := over(b)
	l := make([]string, r.Count(api.MaxRows, textBytes))
	ahead, total := "", 0
	for i := range l {
		n := r.Int(api.MaxValue)
		r.must(n <= len(ahead), api.ErrPackForm)
		rest := r.Text(api.MaxValue)
		total += n + len(rest)
		if !r.must(n+len(rest) <= api.MaxValue && total <= api.MaxImage, api.ErrPackLong) {
			break
		}
		// Both texts begin with the same n bytes: what is behind these tells.
		r.must(shared(ahead[n:], rest) == 0, api.ErrPackForm)
		r.must(i == 0 || rest > ahead[n:], api.ErrPackOrder)
		l[i] = ahead[:n] + rest
		ahead = l[i]
	}
	if e := r.End(); e != api.OK {
		return nil, e
	}
	return l, api.OK
}

// shared is how many bytes both texts begin with.
func shared(s, t string) int {
	n := 0
	for n < min(len(s), len(t)) && s[n] == t[n] {
		n++
	}
	return n
}

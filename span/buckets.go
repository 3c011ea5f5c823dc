package span

import (
	"iter"

	"hawser/api"
)

// Bucket answers the number of a key's bucket.
func Bucket(depth int, key string) (int, api.Errno) {
	if count(depth) == 0 {
		return 0, api.ErrSpanDepth
	}
	if err := Check(key); err != api.OK {
		return 0, err
	}
	bucket := 0
	for i := range depth {
		bucket = bucket*api.Fan + digit(key, i)
	}
	return bucket, api.OK
}

// Of answers the range that has just the texts of a bucket.
func Of(depth, bucket int) (api.Range, api.Errno) {
	n := count(depth)
	if n == 0 {
		return api.Range{}, api.ErrSpanDepth
	}
	if bucket < 0 || bucket >= n {
		return api.Range{}, api.ErrSpanBucket
	}
	return api.Range{From: least(depth, bucket), To: least(depth, bucket+1)}, api.OK
}

// Buckets answers the numbers of the buckets that have a text in common with one of the ranges, rising.
func Buckets(depth int, l ...api.Range) ([]int, api.Errno) {
	if count(depth) == 0 {
		return nil, api.ErrSpanDepth
	}
	rest := Normal(l...) // rises as the buckets do, so both are gone over once
	var met []int
	for bucket, r := range All(depth) {
		for len(rest) > 0 && past(rest[0], r.From) {
			rest = rest[1:]
		}
		if len(rest) == 0 {
			break
		}
		if !past(r, rest[0].From) {
			met = append(met, bucket)
		}
	}
	return met, api.OK
}

// Ranges answers the texts of some buckets, in normal form.
func Ranges(depth int, buckets ...int) ([]api.Range, api.Errno) {
	n := count(depth)
	if n == 0 {
		return nil, api.ErrSpanDepth
	}
	named := make([]bool, n) // a bucket that is named often is laid in once
	for _, b := range buckets {
		if b < 0 || b >= n {
			return nil, api.ErrSpanBucket
		}
		named[b] = true
	}
	var l []api.Range
	for b, is := range named {
		if is {
			r, _ := Of(depth, b) // b is a bucket
			l = append(l, r)
		}
	}
	return Normal(l...), api.OK
}

// All goes over the buckets from 0 on, each with its range; over nothing, if the depth may not be.
func All(depth int) iter.Seq2[int, api.Range] {
	return func(yield func(int, api.Range) bool) {
		for bucket := range count(depth) {
			r, _ := Of(depth, bucket) // there are so many buckets
			if !yield(bucket, r) {
				return
			}
		}
	}
}

// count answers how many buckets there are; none, if the depth may not be.
func count(depth int) int {
	if depth < 1 || depth > api.MaxDepth {
		return 0
	}
	n := 1
	for range depth {
		n *= api.Fan
	}
	return n
}

// digit answers one of a text's digits, two of which are a byte.
func digit(text string, i int) int {
	if i/2 >= len(text) {
		return 0
	}
	if i%2 == 0 {
		return int(text[i/2] >> 4)
	}
	return int(text[i/2] & 15)
}

// least answers the least text of a bucket. The number behind the last bucket's has a digit too many, of which no byte is left: its text is "", as it is asked for where a range has no end.
func least(depth, bucket int) string {
	if depth%2 == 1 {
		bucket *= api.Fan // a digit 0 more: bytes have two
		depth++
	}
	text := make([]byte, depth/2)
	for i := len(text) - 1; i >= 0; i-- {
		text[i] = byte(bucket)
		bucket >>= 8
	}
	return trim(string(text), 0)
}

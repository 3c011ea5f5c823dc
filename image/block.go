package image

import "slices"

// block is bytes that wait, behind those of the block ahead of it. They never change, so that Openers may share
// blocks. A nil block has none.
type block struct {
	ahead *block
	bytes []byte
	total int // with those of the blocks ahead
}

func (k *block) size() int {
	if k == nil {
		return 0
	}
	return k.total
}

// with is the block's bytes and b behind them. Each block has more bytes than the one behind it: so a byte is moved
// few times, and blocks are few, however short the pieces are.
func (k *block) with(b []byte) *block {
	if len(b) == 0 {
		return k
	}
	total := k.size() + len(b)
	b = slices.Clone(b)
	for ; k != nil && len(k.bytes) <= len(b); k = k.ahead {
		b = slices.Concat(k.bytes, b)
	}
	return &block{ahead: k, bytes: b, total: total}
}

// joined is all bytes and b behind them; b itself, if there are no others.
func (k *block) joined(b []byte) []byte {
	if k == nil {
		return b
	}
	all := make([]byte, k.total, k.total+len(b))
	for ; k != nil; k = k.ahead {
		copy(all[k.total-len(k.bytes):], k.bytes)
	}
	return append(all, b...)
}

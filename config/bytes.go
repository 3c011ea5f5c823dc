package config

import (
	"hawser/api"
	"hawser/pack"
)

// Encode answers a configuration's bytes.
func Encode(c api.Config) ([]byte, api.Errno) {
	if err := Check(c); err != api.OK {
		return nil, err
	}
	var w pack.Writer
	w.Int(c.Epoch, api.MaxEpoch)
	w.Int(len(c.Chain), api.MaxNodes)
	for _, node := range c.Chain {
		w.Int(node, api.MaxNodes)
	}
	return w.Bytes()
}

// Decode answers the configuration that bytes are, all of them.
func Decode(b []byte) (api.Config, api.Errno) {
	var c api.Config
	r := pack.NewReader(b)
	c.Epoch = r.Int(api.MaxEpoch)
	c.Chain = make([]int, r.Count(api.MaxNodes, 1))
	for i := range c.Chain {
		c.Chain[i] = r.Int(api.MaxNodes)
	}
	if r.End() != api.OK {
		goto none
	}
	if Check(c) != api.OK {
		goto none
	}
	return c, api.OK
none:
	return api.Config{}, api.ErrConfigForm
}

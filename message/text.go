package message

import (
	"strconv"
	"strings"

	"hawser/api"
)

// Text answers a message in one line.
func Text(m api.Msg) (string, api.Errno) {
	if err := Check(m); err != api.OK {
		return "", err
	}
	words := []string{Name(m.Kind), end(m.From) + ">" + end(m.To)}
	for _, f := range [...]struct {
		name  string
		value int
	}{
		{"epoch", m.Epoch}, {"attempt", m.Attempt}, {"client", m.Client},
		{"number", m.Number}, {"seq", m.Seq}, {"level", m.Level},
	} {
		if f.value != 0 {
			words = append(words, word(f.name, f.value))
		}
	}
	switch m.Kind {
	case api.KindForward, api.KindDelta:
		words = append(words, word("update", m.Update.Seq))
	case api.KindChunk:
		words = append(words, word("chunk", m.Chunk.Index))
	case api.KindWrong, api.KindConfig, api.KindBegin:
		words = append(words, word("config", m.Config.Epoch))
	}
	return strings.Join(words, " "), api.OK
}

func word(name string, value int) string { return name + "=" + strconv.Itoa(value) }

// end answers an address that may be as a word.
func end(address int) string {
	switch {
	case address == api.Master:
		return "m"
	case isClient(address):
		return "c" + strconv.Itoa(address-api.Clients)
	}
	return strconv.Itoa(address)
}

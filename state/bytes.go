package state

import (
	"strings"

	"muniment/api"
	"muniment/wire"
)

const (
	mostText  = len(keyMark) + api.MaxKey // a client's text is shorter
	mostValue = api.MaxValue              // what a client's text has is shorter
)

// Encode is a state's bytes.
func (s *State) Encode() string {
	w := wire.NewWriter()
	w.Count(s.Len())
	for text, value := range s.All() {
		w.Text(text)
		w.Text(value)
	}
	return w.All()
}

// Decode is the state of bytes.
func Decode(b string) (*State, api.Errno) {
	r, out, last := wire.NewReader(b), New(), ""
	for range r.Count(api.MaxKeys) {
		text := r.Text(mostText)
		value := r.Text(mostValue)
		if text <= last || !mayHave(text, value) {
			r.Fail(api.ErrForm) // an error of the bytes up to here stays the first one
		}
		out.texts[text], last = held{value}, text
	}
	if e := r.End(); e != api.OK {
		return nil, e
	}
	return out, api.OK
}

// mayHave tells whether a text stands for something, and can have this; the reader has refused what is too long for a key or its value.
func mayHave(text, value string) bool {
	if key, is := strings.CutPrefix(text, keyMark); is {
		return key != ""
	}
	client, is := strings.CutPrefix(text, clientMark)
	return is && len(client) == numberBytes && isLast(value)
}

// lastOf is what a client's text has.
func lastOf(number uint64, digest string) string {
	w := wire.NewWriter()
	w.Number(number, numberBytes)
	w.Hash(digest)
	return w.All()
}

// takeLast takes what a client's text has.
func takeLast(r *wire.Reader) (uint64, string) {
	number := r.Number(numberBytes)
	return number, r.Hash()
}

// isLast tells whether a client's text can have this: the numbers of transactions are from 1 on.
func isLast(value string) bool {
	r := wire.NewReader(value)
	number, _ := takeLast(r)
	return r.End() == api.OK && number > 0
}

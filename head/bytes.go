package head

import (
	"muniment/api"
	"muniment/sha"
	"muniment/wire"
)

const (
	purpose        = 'H' // of a header's digest
	genesisPurpose = 'G' // of the digest that stands ahead of the first header
	heightBytes    = 8
	memberBytes    = 1 // of how many take part, and of each of them
)

// PutMembers puts who takes part.
func PutMembers(w *wire.Writer, l []int) {
	w.Number(uint64(len(l)), memberBytes)
	for _, who := range l {
		w.Number(uint64(who), memberBytes)
	}
}

// TakeMembers takes them.
func TakeMembers(r *wire.Reader) []int {
	many := r.Number(memberBytes)
	if many == 0 || many > api.MaxReplicas {
		r.Fail(api.ErrForm) // at the count already, whether so many bytes are there or not
		return nil
	}
	var l []int
	for range many {
		l = append(l, int(r.Number(memberBytes)))
		if !Members(l) {
			r.Fail(api.ErrForm) // an error of the bytes up to here stays the first one
		}
	}
	if r.Err() != api.OK {
		return nil
	}
	return l
}

// Put puts a header.
func Put(w *wire.Writer, h api.Header) {
	w.Number(h.Height, heightBytes)
	w.Hash(h.Prev)
	w.Hash(h.TxRoot)
	w.Hash(h.StateRoot)
	PutMembers(w, h.Members)
}

// Take takes a header that may be.
func Take(r *wire.Reader) api.Header {
	var h api.Header
	h.Height = r.Number(heightBytes)
	h.Prev = r.Hash()
	h.TxRoot = r.Hash()
	h.StateRoot = r.Hash()
	h.Members = TakeMembers(r)
	r.Fail(Check(h)) // behind all of it alone: an error of the bytes comes ahead of what they say
	if r.Err() != api.OK {
		return api.Header{}
	}
	return h
}

// Encode is a header's bytes.
func Encode(h api.Header) (string, api.Errno) {
	if e := Check(h); e != api.OK {
		return "", e
	}
	return bytesOf(h), api.OK
}

// Decode is the header of bytes.
func Decode(s string) (api.Header, api.Errno) {
	r := wire.NewReader(s)
	h := Take(r)
	if e := r.End(); e != api.OK {
		return api.Header{}, e
	}
	return h, api.OK
}

// Hash is a header's digest.
func Hash(h api.Header) string { return sha.Tagged(purpose, bytesOf(h)) }

// Genesis is the digest that stands ahead of the first block of a chain with a name, and those that take part at first.
func Genesis(name string, members []int) string {
	w := wire.NewWriter()
	w.Text(name)
	PutMembers(w, members)
	return sha.Tagged(genesisPurpose, w.All())
}

// bytesOf is a header's bytes, whether it may be or not.
func bytesOf(h api.Header) string {
	w := wire.NewWriter()
	Put(w, h)
	return w.All()
}

package tx

import (
	"muniment/api"
	"muniment/sha"
	"muniment/wire"
)

const (
	purpose     = 'T' // of a transaction's digest
	numberBytes = 8   // of a client's number, and of the transaction's own
	kindBytes   = 1
)

// Put puts a transaction.
func Put(w *wire.Writer, t api.Tx) {
	w.Number(t.Client, numberBytes)
	w.Number(t.Nonce, numberBytes)
	w.Count(len(t.Ops))
	for _, o := range t.Ops {
		w.Number(uint64(o.Kind), kindBytes)
		w.Text(o.Key)
		w.Text(o.Value)
	}
}

// Take takes a transaction that may be.
func Take(r *wire.Reader) api.Tx {
	var t api.Tx
	t.Client = r.Number(numberBytes)
	t.Nonce = r.Number(numberBytes)
	for range r.Count(api.MaxOps) {
		t.Ops = append(t.Ops, takeOp(r))
	}
	r.Fail(Check(t)) // behind the last operation alone: an error of the bytes comes ahead of what they say
	if r.Err() != api.OK {
		return api.Tx{}
	}
	return t
}

// takeOp takes an operation, one that may not be, too.
func takeOp(r *wire.Reader) api.Op {
	var o api.Op
	o.Kind = int(r.Number(kindBytes))
	o.Key = r.Text(api.MaxKey)
	o.Value = r.Text(api.MaxValue)
	return o
}

// Encode is a transaction's bytes.
func Encode(t api.Tx) (string, api.Errno) {
	if e := Check(t); e != api.OK {
		return "", e
	}
	return bytesOf(t), api.OK
}

// Decode is the transaction of bytes.
func Decode(s string) (api.Tx, api.Errno) {
	r := wire.NewReader(s)
	t := Take(r)
	if e := r.End(); e != api.OK {
		return api.Tx{}, e
	}
	return t, api.OK
}

// ID is a transaction's digest.
func ID(t api.Tx) string { return sha.Tagged(purpose, bytesOf(t)) }

// bytesOf is a transaction's bytes, whether it may be or not.
func bytesOf(t api.Tx) string {
	w := wire.NewWriter()
	Put(w, t)
	return w.All()
}

package block

import (
	"muniment/api"
	"muniment/head"
	"muniment/tree"
	"muniment/tx"
	"muniment/wire"
)

// PutBatch puts a batch.
func PutBatch(w *wire.Writer, b api.Batch) {
	w.Bool(b.Conf)
	if b.Conf {
		head.PutMembers(w, b.Members)
		return
	}
	w.Count(len(b.Txs))
	for _, t := range b.Txs {
		tx.Put(w, t)
	}
}

// TakeBatch takes a batch.
func TakeBatch(r *wire.Reader) api.Batch {
	var b api.Batch
	b.Conf = r.Bool()
	if b.Conf {
		b.Members = head.TakeMembers(r)
	} else {
		b.Txs = takeTxs(r)
	}
	if r.Err() != api.OK {
		return api.Batch{}
	}
	return b
}

// takeTxs takes how many transactions there are, and these.
func takeTxs(r *wire.Reader) []api.Tx {
	var l []api.Tx
	for range r.Count(api.MaxTxs) {
		l = append(l, tx.Take(r))
	}
	return l
}

// EncodeBatch is a batch's bytes.
func EncodeBatch(b api.Batch) (string, api.Errno) {
	if e := CheckBatch(b); e != api.OK {
		return "", e
	}
	w := wire.NewWriter()
	PutBatch(w, b)
	return w.All(), api.OK
}

// DecodeBatch is the batch of bytes.
func DecodeBatch(s string) (api.Batch, api.Errno) {
	r := wire.NewReader(s)
	b := TakeBatch(r)
	if e := r.End(); e != api.OK {
		return api.Batch{}, e
	}
	return b, api.OK
}

// TxRoot is the digest of a block's transactions.
func TxRoot(l []api.Tx) string { return tree.Root(Texts(l)) }

// Texts is transactions as the things of their tree.
func Texts(l []api.Tx) []string {
	var out []string
	for _, t := range l {
		w := wire.NewWriter() // not tx.Encode, which has no bytes for what may not be
		tx.Put(w, t)
		out = append(out, w.All())
	}
	return out
}

// Encode is a block's bytes.
func Encode(b api.Block) (string, api.Errno) {
	batch := api.Batch{Txs: b.Txs}
	if e := head.Check(b.Header); e != api.OK {
		return "", e
	}
	if e := CheckBatch(batch); e != api.OK {
		return "", e
	}
	w := wire.NewWriter()
	head.Put(w, b.Header)
	PutBatch(w, batch)
	return w.All(), api.OK
}

// Decode is the block of bytes.
func Decode(s string) (api.Block, api.Errno) {
	r := wire.NewReader(s)
	h := head.Take(r)
	batch := TakeBatch(r)
	if batch.Conf {
		r.Fail(api.ErrForm) // who takes part stands in the header alone
	}
	if e := r.End(); e != api.OK {
		return api.Block{}, e
	}
	return api.Block{Header: h, Txs: batch.Txs}, api.OK
}

package block_test

import (
	"math/rand"
	"slices"
	"testing"

	"muniment/api"
	"muniment/block"
	"muniment/wire"
)

// Promise 9.1: a batch may be without transactions, with one, with MaxTxs, and with Conf and who takes part.
func TestCheckBatch(t *testing.T) {
	for _, b := range rightBatches() {
		if e := block.CheckBatch(b); e != api.OK {
			t.Errorf("%#v: %d", b, e)
		}
	}
}

// unlikely is batches that may not be, and the error of each.
func unlikely() map[api.Errno][]api.Batch {
	out := map[api.Errno][]api.Batch{
		api.ErrForm: {
			conf(), {Conf: true, Members: []int{}},
			{Conf: true, Members: []int{0}, Txs: many(1)}, {Conf: true, Txs: many(1)},
			{Members: []int{0}}, {Members: []int{0}, Txs: many(1)}, {Members: upTo(16), Txs: many(16)}, {Members: []int{-1}},
			// where several apply, the one named first
			{Conf: true, Members: []int{0}, Txs: many(17)}, {Conf: true, Members: []int{0}, Txs: wrongTxs()[:1]}, {Conf: true, Txs: many(17)},
			{Members: []int{0}, Txs: many(17)}, {Members: []int{0}, Txs: wrongTxs()[:1]}, {Members: []int{16}, Txs: slices.Repeat(wrongTxs()[:1], 17)},
		},
		api.ErrMany: {batch(many(17)...), batch(many(18)...), batch(many(300)...), batch(slices.Repeat(wrongTxs()[:1], 17)...)},
	}
	for _, l := range wrongMembers() {
		out[api.ErrForm] = append(out[api.ErrForm], conf(l...), api.Batch{Conf: true, Members: l, Txs: many(1)}, api.Batch{Members: l})
	}
	for _, x := range wrongTxs() {
		out[api.ErrTx] = append(out[api.ErrTx], batch(x))
		for _, at := range []int{0, 7, api.MaxTxs - 1} {
			l := many(api.MaxTxs)
			l[at] = x
			out[api.ErrTx] = append(out[api.ErrTx], batch(l...))
		}
		out[api.ErrMany] = append(out[api.ErrMany], batch(append(many(api.MaxTxs), x)...))
	}
	return out
}

// Promise 9.1: ErrForm, ErrMany and ErrTx for a batch that may not be; EncodeBatch tells the same, and no bytes.
func TestCheckBatchOfWhatMayNotBe(t *testing.T) {
	for want, l := range unlikely() {
		for _, b := range l {
			if e := block.CheckBatch(b); e != want {
				t.Errorf("%#v: %d, want %d", b, e, want)
			}
			if s, e := block.EncodeBatch(b); s != "" || e != want {
				t.Errorf("%#v: %q, %d, want %d", b, s, e, want)
			}
		}
	}
}

// Promise 9.1: batches' bytes, written out by hand.
func TestEncodeBatchByHand(t *testing.T) {
	for _, c := range []struct {
		b    api.Batch
		want string
	}{
		{api.Batch{}, "\x00" + "\x00\x00\x00\x00"},
		{conf(0, 3, 15), "\x01" + "\x03\x00\x03\x0f"},
		{batch(of(1, 2, put("a", "xy")), of(3, 258, del("b"))), "\x00" + "\x00\x00\x00\x02" +
			"\x00\x00\x00\x00\x00\x00\x00\x01" + "\x00\x00\x00\x00\x00\x00\x00\x02" + "\x00\x00\x00\x01" + "\x01\x00\x00\x00\x01a\x00\x00\x00\x02xy" +
			"\x00\x00\x00\x00\x00\x00\x00\x03" + "\x00\x00\x00\x00\x00\x00\x01\x02" + "\x00\x00\x00\x01" + "\x02\x00\x00\x00\x01b\x00\x00\x00\x00"},
	} {
		if s, e := block.EncodeBatch(c.b); s != c.want || e != api.OK {
			t.Errorf("%#v: %q, %d, want %q", c.b, s, e, c.want)
		}
		if b, e := block.DecodeBatch(c.want); !sameBatch(b, c.b) || e != api.OK {
			t.Errorf("%q: %#v, %d, want %#v", c.want, b, e, c.b)
		}
	}
}

// Promise 9.1: what EncodeBatch encodes is decoded again.
func TestEncodeBatch(t *testing.T) {
	for _, b := range rightBatches() {
		s, e := block.EncodeBatch(b)
		if s != plainBatch(b) || e != api.OK {
			t.Errorf("%#v: %q, %d, want %q", b, s, e, plainBatch(b))
		}
		if k, e := block.DecodeBatch(s); !sameBatch(k, b) || e != api.OK {
			t.Errorf("%#v is decoded as %#v, %d", b, k, e)
		}
	}
}

// refused holds that bytes are no batch: the error, and an empty one, of DecodeBatch and of TakeBatch.
func refused(t *testing.T, s string, want api.Errno) {
	t.Helper()
	if b, e := block.DecodeBatch(s); e != want || !noBatch(b) {
		t.Errorf("DecodeBatch(%.300q): %#v, %d, want the error %d", s, b, e, want)
	}
	if want == api.ErrMore {
		return
	}
	r := wire.NewReader(s)
	if b := block.TakeBatch(r); r.Err() != want || !noBatch(b) {
		t.Errorf("TakeBatch of %.300q: %#v, %d, want the error %d", s, b, r.Err(), want)
	}
}

// Promise 9.1: bytes that end at each place are ErrCut, bytes behind are ErrMore.
func TestDecodeBatchOfBytesThatEndOrGoOn(t *testing.T) {
	for _, b := range rightBatches() {
		s := plainBatch(b)
		for n := range len(s) {
			refused(t, s[:n], api.ErrCut)
		}
		for _, behind := range []string{"\x00", "\x01", "x", s} {
			refused(t, s+behind, api.ErrMore)
		}
	}
}

// Promise 9.1: too many transactions are ErrMany, by their count alone.
func TestDecodeBatchOfTooMany(t *testing.T) {
	for _, n := range []int{api.MaxTxs + 1, api.MaxTxs + 2, 255, 256, 1 << 16, 1<<31 - 1, 1 << 31, 1<<32 - 1} {
		for _, behind := range []string{"", "\x00", plainTx(many(1)[0]), sample(0, 5000)} {
			refused(t, "\x00"+plainCount(n)+behind, api.ErrMany)
		}
	}
	refused(t, plainBatch(batch(many(17)...)), api.ErrMany)
	refused(t, plainBatch(batch(slices.Repeat(wrongTxs()[:1], 17)...)), api.ErrMany)
	refused(t, "\x00"+plainCount(16), api.ErrCut)
}

// Promise 9.1: a Conf that is neither yes nor no is ErrForm, whatever stands behind it.
func TestDecodeBatchOfNeitherYesNorNo(t *testing.T) {
	for conf := 2; conf < 256; conf++ {
		for _, behind := range []string{"", "\x00", plainMembers(upTo(3)), plainBatch(batch())[1:], plainBatch(batch(many(2)...))[1:]} {
			refused(t, string([]byte{byte(conf)})+behind, api.ErrForm)
		}
	}
}

// Promise 9.1: with Conf those who may not take part are ErrForm; a transaction that may not be is ErrTx where it ends, what is too long ErrMany.
func TestDecodeBatchOfWhatMayNotBe(t *testing.T) {
	for _, l := range [][]int{nil, {16}, {0, 0}, {1, 0}, {0, 16}, {0, 1, 1}, {0, 2, 1}, {255}, upTo(17), upTo(255)} {
		refused(t, "\x01"+plainMembers(l), api.ErrForm)
		refused(t, "\x01"+plainMembers(l)+"more", api.ErrForm)
	}
	for _, x := range wrongTxs() {
		want := api.ErrTx
		if len(x.Ops) > api.MaxOps || len(x.Ops) > 0 && (len(x.Ops[0].Key) > api.MaxKey || len(x.Ops[0].Value) > api.MaxValue) {
			want = api.ErrMany
		}
		for _, ahead := range []int{0, 1, 15} {
			refused(t, plainBatch(batch(append(many(ahead), x)...)), want)
			refused(t, plainBatch(batch(append(many(ahead), x)...))+"more", want)
			refused(t, "\x00"+plainCount(16)+plainBatch(batch(append(many(ahead), x)...))[5:], want)
		}
	}
}

// Promise 9.1: what is put and taken between other things, one behind the other.
func TestPutBatchAndTakeBatch(t *testing.T) {
	w, want := wire.NewWriter(), "ahead"
	w.Bytes("ahead")
	for _, b := range rightBatches() {
		block.PutBatch(w, b)
		w.Bytes("behind")
		want += plainBatch(b) + "behind"
		if w.All() != want {
			t.Fatalf("%#v: %q, want %q", b, w.All(), want)
		}
	}
	r := wire.NewReader(want)
	r.Bytes(len("ahead"))
	for _, b := range rightBatches() {
		from := r.At()
		if k := block.TakeBatch(r); !sameBatch(k, b) || r.Err() != api.OK || r.At() != from+len(plainBatch(b)) {
			t.Fatalf("%#v: %#v, %d, at %d", b, k, r.Err(), r.At())
		}
		if s := r.Bytes(len("behind")); s != "behind" {
			t.Fatalf("%q", s)
		}
	}
	if e := r.End(); e != api.OK {
		t.Error(e)
	}
}

// Promise 9.1: a reader that has an error keeps it, and nothing is taken; so it is where a batch behind others is wrong.
func TestTakeBatchWithAnError(t *testing.T) {
	for _, b := range rightBatches() {
		for _, e := range []api.Errno{api.ErrArg, api.ErrForm, api.ErrTx, api.ErrHead, 12345} {
			r := wire.NewReader("ahead" + plainBatch(b))
			r.Bytes(5)
			r.Fail(e)
			if k := block.TakeBatch(r); !noBatch(k) || r.Err() != e || r.At() != 5 {
				t.Errorf("%#v: %#v, %d, at %d", b, k, r.Err(), r.At())
			}
		}
		r := wire.NewReader(plainBatch(b) + "\x07" + plainBatch(b))
		block.TakeBatch(r)
		for range 2 {
			if k := block.TakeBatch(r); !noBatch(k) || r.Err() != api.ErrForm {
				t.Errorf("%#v, %d", k, r.Err())
			}
		}
	}
}

// Promise 9.1 and rule R1: nil writers and readers.
func TestBatchesOfNoWriterAndNoReader(t *testing.T) {
	for _, b := range rightBatches() {
		block.PutBatch(nil, b)
	}
	if b := block.TakeBatch(nil); !noBatch(b) {
		t.Errorf("%#v", b)
	}
	for _, l := range unlikely() {
		for _, b := range l {
			block.PutBatch(wire.NewWriter(), b)
			block.PutBatch(nil, b)
		}
	}
}

// Promise 9.1: any bytes are a batch or are not; those that are one are just its bytes.
func TestDecodeBatchOfAnyBytes(t *testing.T) {
	d := rand.New(rand.NewSource(9))
	right := 0
	for range 20000 {
		l := rightBatches()
		s := []byte(plainBatch(l[d.Intn(len(l))]))
		for range d.Intn(3) {
			s[d.Intn(len(s))] ^= byte(1 << d.Intn(8))
		}
		b, e := block.DecodeBatch(string(s))
		if e != api.OK {
			if !noBatch(b) {
				t.Fatalf("%q: %#v, %d", s, b, e)
			}
			continue
		}
		right++
		if k, e := block.EncodeBatch(b); k != string(s) || e != api.OK {
			t.Fatalf("%q is %#v, and that %q, %d", s, b, k, e)
		}
	}
	if right < 5000 {
		t.Errorf("%d were right", right)
	}
}

// Promise 9.1: Texts is the bytes of each, TxRoot the tree's root of these: of none, one and many.
func TestTextsAndTxRoot(t *testing.T) {
	for n := range 40 {
		l := many(n)
		texts := block.Texts(l)
		if len(texts) != n {
			t.Fatalf("%d of %d", len(texts), n)
		}
		for i, s := range texts {
			if s != plainTx(l[i]) {
				t.Errorf("%#v: %q, want %q", l[i], s, plainTx(l[i]))
			}
		}
		if root := block.TxRoot(l); root != plainTxRoot(l) {
			t.Errorf("%d: %x, want %x", n, root, plainTxRoot(l))
		}
	}
	if root := block.TxRoot([]api.Tx{}); root != plainSum("") || block.TxRoot(nil) != root {
		t.Errorf("%x", root)
	}
	for _, x := range wrongTxs() { // bytes as the writer puts them
		l := []api.Tx{many(1)[0], x}
		if texts := block.Texts(l); !slices.Equal(texts, []string{plainTx(l[0]), plainTx(x)}) {
			t.Errorf("%#v: %q", x, texts)
		}
		if root := block.TxRoot(l); root != plainTxRoot(l) {
			t.Errorf("%#v: %x", x, root)
		}
	}
}

// Rule R2: what is told of batches is the caller's own, and what is handed in is not changed.
func TestBatchesAreTheCallersOwn(t *testing.T) {
	for _, b := range rightBatches() {
		before := api.Batch{Conf: b.Conf, Members: slices.Clone(b.Members), Txs: deepTxs(b.Txs)}
		s, _ := block.EncodeBatch(b)
		block.CheckBatch(b)
		block.PutBatch(wire.NewWriter(), b)
		clear(block.Texts(b.Txs))
		block.TxRoot(b.Txs)
		if !sameBatch(b, before) {
			t.Fatalf("%#v, was %#v", b, before)
		}
		x, _ := block.DecodeBatch(s)
		for i := range x.Txs {
			clear(x.Txs[i].Ops)
		}
		clear(x.Members)
		if y, _ := block.DecodeBatch(s); !sameBatch(y, before) {
			t.Fatalf("%#v, want %#v", y, before)
		}
	}
}

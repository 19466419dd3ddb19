package tx_test

import (
	"crypto/sha256"
	"encoding/binary"
	"encoding/hex"
	"math/rand"
	"slices"
	"strings"
	"testing"

	"muniment/api"
	"muniment/tx"
	"muniment/wire"
)

// plainText is a text's bytes by the library.
func plainText(s string) string {
	return string(binary.BigEndian.AppendUint32(nil, uint32(len(s)))) + s
}

// plainFront is what stands ahead of the operations.
func plainFront(client, nonce uint64, ops uint32) string {
	b := binary.BigEndian.AppendUint64(nil, client)
	b = binary.BigEndian.AppendUint64(b, nonce)
	return string(binary.BigEndian.AppendUint32(b, ops))
}

// plainOp is an operation's bytes.
func plainOp(o api.Op) string {
	return string([]byte{byte(o.Kind)}) + plainText(o.Key) + plainText(o.Value)
}

// plainBytes is a transaction's bytes by the document's words.
func plainBytes(x api.Tx) string {
	var b strings.Builder
	b.WriteString(plainFront(x.Client, x.Nonce, uint32(len(x.Ops))))
	for _, o := range x.Ops {
		b.WriteString(plainOp(o))
	}
	return b.String()
}

// plainID is a transaction's digest by the library.
func plainID(x api.Tx) string {
	sum := sha256.Sum256([]byte("T" + plainText(plainBytes(x))))
	return string(sum[:])
}

// refused holds that bytes are no transaction: the error, and an empty one, of Decode and of Take.
func refused(t *testing.T, s string, want api.Errno) {
	t.Helper()
	if x, e := tx.Decode(s); e != want || !empty(x) {
		t.Errorf("Decode(%.200q): %#v, %d, want the error %d", s, x, e, want)
	}
	if want == api.ErrMore {
		return
	}
	r := wire.NewReader(s)
	if x := tx.Take(r); r.Err() != want || !empty(x) {
		t.Errorf("Take of %.200q: %#v, %d, want the error %d", s, x, r.Err(), want)
	}
}

// empty tells whether a transaction is the zero value.
func empty(x api.Tx) bool { return x.Client == 0 && x.Nonce == 0 && len(x.Ops) == 0 }

// Promise 4.1: a transaction's bytes, written out by hand.
func TestEncodeByHand(t *testing.T) {
	x := api.Tx{Client: 0x0102030405060708, Nonce: 258, Ops: []api.Op{
		{Kind: api.OpPut, Key: "ab", Value: "xyz"}, {Kind: api.OpDel, Key: "c"}}}
	want := "\x01\x02\x03\x04\x05\x06\x07\x08" + "\x00\x00\x00\x00\x00\x00\x01\x02" + "\x00\x00\x00\x02" +
		"\x01" + "\x00\x00\x00\x02ab" + "\x00\x00\x00\x03xyz" +
		"\x02" + "\x00\x00\x00\x01c" + "\x00\x00\x00\x00"
	if s, e := tx.Encode(x); s != want || e != api.OK {
		t.Errorf("%q, %d, want %q", s, e, want)
	}
	if y, e := tx.Decode(want); !plainSame(x, y) || e != api.OK {
		t.Errorf("%#v, %d, want %#v", y, e, x)
	}
}

// Promise 4.1: the bytes of all that may be, up to the ends, and what was encoded is decoded again.
func TestEncode(t *testing.T) {
	for _, x := range right() {
		s, e := tx.Encode(x)
		if s != plainBytes(x) || e != api.OK {
			t.Errorf("%#v: %q, %d, want %q", x, s, e, plainBytes(x))
		}
		if y, e := tx.Decode(s); !plainSame(x, y) || e != api.OK {
			t.Errorf("%#v is decoded as %#v, %d", x, y, e)
		}
	}
}

// Promise 4.1: Encode tells ErrTx for all that may not be, and no bytes.
func TestEncodeOfWhatMayNotBe(t *testing.T) {
	for _, x := range wrong() {
		if s, e := tx.Encode(x); s != "" || e != api.ErrTx {
			t.Errorf("%#.200v: %d bytes, %d", x, len(s), e)
		}
	}
}

// Promise 4.1: ErrCut wherever the bytes end.
func TestDecodeOfWhatIsCut(t *testing.T) {
	for _, x := range right() {
		s := plainBytes(x)
		for n := range len(s) {
			refused(t, s[:n], api.ErrCut)
		}
	}
}

// Promise 4.1: ErrMore where bytes are left, whatever they are.
func TestDecodeOfWhatGoesOn(t *testing.T) {
	for _, x := range right() {
		s := plainBytes(x)
		for _, behind := range []string{"\x00", "x", "\xff\xff\xff\xff", s} {
			refused(t, s+behind, api.ErrMore)
		}
	}
}

// Promise 4.1: ErrMany at more operations than there may be, though the bytes end, or the number may not be, too.
func TestDecodeOfTooManyOperations(t *testing.T) {
	for _, n := range []uint32{api.MaxOps + 1, api.MaxOps + 2, 255, 256, 1 << 16, 1 << 24, 1<<31 - 1, 1 << 31, 1<<32 - 1} {
		for _, nonce := range []uint64{0, 1} {
			refused(t, plainFront(1, nonce, n), api.ErrMany)
			refused(t, plainFront(1, nonce, n)+plainOp(many(1)[0]), api.ErrMany)
		}
	}
	refused(t, plainBytes(of(many(api.MaxOps+1)...)), api.ErrMany)
	refused(t, plainFront(1, 1, api.MaxOps), api.ErrCut)
}

// Promise 4.1: ErrMany at a key or a value that is too long, by its count alone, in whichever operation.
func TestDecodeOfTooLongTexts(t *testing.T) {
	for ahead := range api.MaxOps {
		front := plainFront(1, 1, uint32(ahead)+1)
		for _, o := range many(ahead) {
			front += plainOp(o)
		}
		for _, kind := range []string{"\x00", "\x01", "\x02", "\x03", "\x04", "\x05", "\xff"} {
			for _, n := range []uint32{1, 2, 1 << 8, 1 << 16, 1 << 31, 1<<32 - 1 - api.MaxValue} {
				key := string(binary.BigEndian.AppendUint32(nil, api.MaxKey+n))
				value := string(binary.BigEndian.AppendUint32(nil, api.MaxValue+n))
				for _, behind := range []string{"", "x", sample(1000)} {
					refused(t, front+kind+key+behind, api.ErrMany)
					refused(t, front+kind+plainText("a")+value+behind, api.ErrMany)
				}
			}
		}
	}
}

// Promise 4.1: ErrTx for bytes of a transaction that may not be, whatever goes on behind it; what is too long is ErrMany ahead of that.
func TestDecodeOfWhatMayNotBe(t *testing.T) {
	for _, x := range wrong() {
		tooLong := func(o api.Op) bool { return len(o.Key) > api.MaxKey || len(o.Value) > api.MaxValue }
		want := api.ErrTx
		if len(x.Ops) > api.MaxOps || slices.ContainsFunc(x.Ops, tooLong) {
			want = api.ErrMany
		}
		if slices.ContainsFunc(x.Ops, func(o api.Op) bool { return o.Kind != int(byte(o.Kind)) }) {
			continue // a byte has no such kind
		}
		refused(t, plainBytes(x), want)
		refused(t, plainBytes(x)+"more", want)
	}
	for kind := range 256 {
		s := plainFront(1, 1, 1) + plainOp(api.Op{Kind: kind, Key: "a"})
		if kind < api.OpPut || kind > api.OpNone {
			refused(t, s, api.ErrTx)
		} else if x, e := tx.Decode(s); e != api.OK || len(x.Ops) != 1 || x.Ops[0].Kind != kind {
			t.Errorf("the kind %d: %#v, %d", kind, x, e)
		}
	}
}

// Promise 4.1: ErrTx is told behind the last operation: whatever may not be, an error of the bytes behind it comes first.
func TestDecodeTellsOfBytesFirst(t *testing.T) {
	for _, o := range []api.Op{{Kind: 0, Key: "a"}, {Kind: 9, Key: "a"}, {Kind: api.OpPut}, {Kind: api.OpDel, Key: "a", Value: "v"}} {
		front := plainFront(1, 1, 2) + plainOp(o)
		refused(t, front, api.ErrCut)
		refused(t, front+"\x01"+plainText(sample(api.MaxKey+1)), api.ErrMany)
		refused(t, front+"\x01"+plainText("a")+plainText(sample(api.MaxValue+1)), api.ErrMany)
		refused(t, front+plainOp(many(1)[0]), api.ErrTx)
		refused(t, front+plainOp(many(1)[0])+"more", api.ErrTx)
	}
	refused(t, plainFront(1, 0, 1), api.ErrCut)
	refused(t, plainFront(1, 0, 0), api.ErrTx)
	refused(t, plainFront(1, 1, 0)+"more", api.ErrTx)
}

// Promise 4.1: transactions that were put are taken one by one, with what stands between them.
func TestPutAndTake(t *testing.T) {
	w, all := wire.NewWriter(), ""
	for _, x := range right() {
		w.Text("between")
		tx.Put(w, x)
		all += plainText("between") + plainBytes(x)
	}
	if w.All() != all {
		t.Fatalf("%q, want %q", w.All(), all)
	}
	r := wire.NewReader(w.All())
	for _, x := range right() {
		if s := r.Text(100); s != "between" {
			t.Fatalf("%q ahead of %#v", s, x)
		}
		from := r.At()
		if y := tx.Take(r); !plainSame(x, y) || r.Err() != api.OK || r.At() != from+len(plainBytes(x)) {
			t.Fatalf("%#v, %d, at %d, want %#v from %d on", y, r.Err(), r.At(), x, from)
		}
	}
	if e := r.End(); e != api.OK {
		t.Error(e)
	}
}

// Promise 4.1: Put puts what may not be as it stands, and Take refuses it.
func TestPutOfWhatMayNotBe(t *testing.T) {
	for _, x := range wrong() {
		w := wire.NewWriter()
		tx.Put(w, x)
		if w.All() != plainBytes(x) {
			t.Errorf("%#.200v: %.200q, want %.200q", x, w.All(), plainBytes(x))
		}
	}
}

// Promise 4.1: a reader that has an error keeps it, and nothing is taken of it.
func TestTakeBehindAnError(t *testing.T) {
	for _, e := range []api.Errno{api.ErrForm, api.ErrCut, api.ErrMac, -1, 999} {
		for _, s := range []string{"", "x", plainBytes(each()), plainBytes(of())} {
			r := wire.NewReader("ab" + s)
			r.Bytes(2)
			r.Fail(e)
			if x := tx.Take(r); !empty(x) || r.Err() != e || r.At() != 2 {
				t.Errorf("%#v, the error %d, at %d; want %d", x, r.Err(), r.At(), e)
			}
		}
	}
}

// Promise 4.1: the error of a Take is the reader's: nothing is taken behind it.
func TestTakeLaysItsError(t *testing.T) {
	r := wire.NewReader(plainBytes(of()) + plainBytes(each()))
	tx.Take(r)
	if x := tx.Take(r); !empty(x) || r.Err() != api.ErrTx || r.End() != api.ErrTx {
		t.Errorf("%#v, %d", x, r.Err())
	}
}

// Promise 4.1: of a nil reader an empty one; a nil writer gets nothing.
func TestNil(t *testing.T) {
	if x := tx.Take(nil); !empty(x) {
		t.Error(x)
	}
	for _, x := range []api.Tx{each(), of(), {}} {
		var w *wire.Writer
		tx.Put(w, x)
		if w.Len() != 0 || w.All() != "" {
			t.Errorf("%q", w.All())
		}
	}
}

// Promise 4.1: what is decoded is its own (R2).
func TestDecodedIsItsOwn(t *testing.T) {
	s := plainBytes(each())
	x, _ := tx.Decode(s)
	y, _ := tx.Decode(s)
	x.Ops[0] = api.Op{Kind: 99, Key: "changed", Value: "changed"}
	if z, _ := tx.Decode(s); !plainSame(y, each()) || !plainSame(z, each()) {
		t.Errorf("%#v, %#v", y, z)
	}
}

// Promise 4.1: a digest that was worked out elsewhere.
func TestIDByHand(t *testing.T) {
	x := api.Tx{Client: 3, Nonce: 1, Ops: []api.Op{{Kind: api.OpPut, Key: "a", Value: "1"}, {Kind: api.OpDel, Key: "b"}}}
	want := "cfaa5036a1f4a9086526e5f677b9fa7304ea46e8810c4804da11365b03a4802c"
	if got := hex.EncodeToString([]byte(tx.ID(x))); got != want {
		t.Errorf("%s, want %s", got, want)
	}
}

// Promise 4.1: the digest is that of the bytes for the purpose T, of what may not be, too.
func TestID(t *testing.T) {
	for _, x := range slices.Concat(right(), wrong()) {
		if got := tx.ID(x); got != plainID(x) || len(got) != api.HashBytes {
			t.Errorf("%#.200v: %x, want %x", x, got, plainID(x))
		}
	}
}

// Promise 4.1: transactions that differ in any one thing have digests of their own.
func TestIDTellsApart(t *testing.T) {
	seen := map[string]api.Tx{}
	for _, x := range append(changed(each()), each()) {
		id := tx.ID(x)
		if y, ok := seen[id]; ok && !plainSame(x, y) {
			t.Errorf("%#v and %#v have one digest", x, y)
		}
		seen[id] = x
	}
}

// drawn is a transaction that may be.
func drawn(d *rand.Rand) api.Tx {
	x := api.Tx{Client: d.Uint64(), Nonce: d.Uint64() | 1}
	for range 1 + d.Intn(api.MaxOps) {
		o := api.Op{Kind: 1 + d.Intn(4), Key: drawnText(d, 1+d.Intn(api.MaxKey))}
		if o.Kind == api.OpPut || o.Kind == api.OpCheck {
			o.Value = drawnText(d, d.Intn(api.MaxValue+1))
		}
		x.Ops = append(x.Ops, o)
	}
	return x
}

// drawnText is so many bytes.
func drawnText(d *rand.Rand, n int) string {
	var b strings.Builder
	for range n {
		b.WriteByte(byte(d.Intn(256)))
	}
	return b.String()
}

// Promise 4.1: what was encoded is decoded again, whatever it is.
func TestDecodeOfWhatWasEncoded(t *testing.T) {
	d := rand.New(rand.NewSource(4))
	for range 5000 {
		x := drawn(d)
		s, e := tx.Encode(x)
		y, f := tx.Decode(s)
		if e != api.OK || f != api.OK || !plainSame(x, y) || s != plainBytes(x) {
			t.Fatalf("%#v: %d, %d, %#v", x, e, f, y)
		}
	}
}

// Promise 4.1: bytes of which some are others are refused, or are just those of the transaction that they are taken for.
func TestDecodeOfAnyBytes(t *testing.T) {
	d := rand.New(rand.NewSource(41))
	taken := 0
	for range 50000 {
		b := []byte(plainBytes(drawn(d)))
		for range 1 + d.Intn(2) {
			b[d.Intn(len(b))] = byte(d.Intn(256) >> d.Intn(8))
		}
		x, e := tx.Decode(string(b))
		if e != api.OK {
			if !empty(x) {
				t.Fatalf("%q: %#v beside the error %d", b, x, e)
			}
			continue
		}
		taken++
		if tx.Check(x) != api.OK || plainBytes(x) != string(b) {
			t.Fatalf("%q is taken for %#v", b, x)
		}
	}
	if taken == 0 || taken == 50000 {
		t.Errorf("%d were taken", taken)
	}
}

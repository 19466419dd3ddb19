package head_test

import (
	"crypto/sha256"
	"encoding/binary"
	"encoding/hex"
	"math/rand"
	"slices"
	"testing"

	"muniment/api"
	"muniment/head"
	"muniment/wire"
)

// plainText is a text's bytes by the library.
func plainText(s string) string {
	return string(binary.BigEndian.AppendUint32(nil, uint32(len(s)))) + s
}

// plainMembers is the bytes of who takes part by the document's words.
func plainMembers(l []int) string {
	b := []byte{byte(len(l))}
	for _, who := range l {
		b = append(b, byte(who))
	}
	return string(b)
}

// plainDigest is 32 bytes of a text, with noughts behind it if it is too short.
func plainDigest(s string) string {
	return (s + string(make([]byte, api.HashBytes)))[:api.HashBytes]
}

// plainFront is what stands ahead of who takes part.
func plainFront(h api.Header) string {
	return string(binary.BigEndian.AppendUint64(nil, h.Height)) + plainDigest(h.Prev) + plainDigest(h.TxRoot) + plainDigest(h.StateRoot)
}

// plainBytes is a header's bytes by the document's words.
func plainBytes(h api.Header) string { return plainFront(h) + plainMembers(h.Members) }

// plainTagged is the digest of one part for a purpose by the library.
func plainTagged(purpose, part string) string {
	sum := sha256.Sum256([]byte(purpose + plainText(part)))
	return string(sum[:])
}

// empty tells whether a header is the zero value.
func empty(h api.Header) bool {
	return h.Height == 0 && h.Prev == "" && h.TxRoot == "" && h.StateRoot == "" && len(h.Members) == 0
}

// isHeader holds that bytes are just those of a header.
func isHeader(t *testing.T, h api.Header) {
	t.Helper()
	if s, e := head.Encode(h); s != plainBytes(h) || e != api.OK {
		t.Errorf("%#v: %q, %d, want %q", h, s, e, plainBytes(h))
	}
	if k, e := head.Decode(plainBytes(h)); !plainSame(k, h) || e != api.OK {
		t.Errorf("%#v is decoded as %#v, %d", h, k, e)
	}
}

// noHeader holds that bytes are no header: the error, and an empty one, of Decode and of Take.
func noHeader(t *testing.T, s string, want api.Errno) {
	t.Helper()
	if h, e := head.Decode(s); e != want || !empty(h) {
		t.Errorf("Decode(%.300q): %#v, %d, want the error %d", s, h, e, want)
	}
	if want == api.ErrMore {
		return
	}
	r := wire.NewReader(s)
	if h := head.Take(r); r.Err() != want || !empty(h) {
		t.Errorf("Take of %.300q: %#v, %d, want the error %d", s, h, r.Err(), want)
	}
}

// noMembers holds that bytes are not who takes part, alone and behind a header's front.
func noMembers(t *testing.T, s string, want api.Errno) {
	t.Helper()
	r := wire.NewReader(s)
	if l := head.TakeMembers(r); r.Err() != want || len(l) != 0 {
		t.Errorf("TakeMembers of %.300q: %v, %d, want the error %d", s, l, r.Err(), want)
	}
	noHeader(t, plainFront(of())+s, want)
}

// Promise 8.1: a header's bytes, written out by hand.
func TestEncodeByHand(t *testing.T) {
	h := api.Header{Height: 258, Prev: "0123456789abcdef0123456789abcdef", TxRoot: "ABCDEFGHIJKLMNOPABCDEFGHIJKLMNOP",
		StateRoot: "abcdefghijklmnopqrstuvwxyzabcdef", Members: []int{0, 3, 15}}
	want := "\x00\x00\x00\x00\x00\x00\x01\x02" + "0123456789abcdef0123456789abcdef" + "ABCDEFGHIJKLMNOPABCDEFGHIJKLMNOP" +
		"abcdefghijklmnopqrstuvwxyzabcdef" + "\x03\x00\x03\x0f"
	if s, e := head.Encode(h); s != want || e != api.OK {
		t.Errorf("%q, %d, want %q", s, e, want)
	}
	if k, e := head.Decode(want); !plainSame(k, h) || e != api.OK {
		t.Errorf("%#v, %d, want %#v", k, e, h)
	}
}

// Promise 8.1: the bytes of all that may be, up to the ends, and what was encoded is decoded again.
func TestEncode(t *testing.T) {
	for _, h := range right() {
		isHeader(t, h)
	}
}

// Promise 8.1: Encode tells ErrHead for all that may not be, and no bytes.
func TestEncodeOfWhatMayNotBe(t *testing.T) {
	for _, h := range wrong() {
		if s, e := head.Encode(h); s != "" || e != api.ErrHead {
			t.Errorf("%#.300v: %q, %d", h, s, e)
		}
	}
}

// Promise 8.1: ErrCut wherever the bytes end, in the Height, in each digest, ahead of the count and behind it.
func TestDecodeOfWhatIsCut(t *testing.T) {
	for _, h := range right() {
		s := plainBytes(h)
		for n := range len(s) {
			noHeader(t, s[:n], api.ErrCut)
		}
		members := plainMembers(h.Members)
		for n := range len(members) {
			noMembers(t, members[:n], api.ErrCut)
		}
	}
}

// Promise 8.1: ErrMore where bytes are left, whatever they are.
func TestDecodeOfWhatGoesOn(t *testing.T) {
	for _, h := range right() {
		s := plainBytes(h)
		for _, behind := range []string{"\x00", "x", "\xff\xff\xff\xff", s} {
			noHeader(t, s+behind, api.ErrMore)
		}
	}
}

// Promise 8.1: ErrForm at a count of nobody, and at one above MaxReplicas, whatever stands behind it or does not.
func TestDecodeOfCountsThatMayNotBe(t *testing.T) {
	for _, behind := range []string{"", "\x00", "\x00\x01\x02", plainMembers(upTo(16))[1:], plainMembers(upTo(255))[1:], sample(0, 300)} {
		noMembers(t, "\x00"+behind, api.ErrForm)
		for many := api.MaxReplicas + 1; many < 256; many++ {
			noMembers(t, string([]byte{byte(many)})+behind, api.ErrForm)
		}
	}
}

// Promise 8.1: ErrForm at numbers that do not rise, or are too great, wherever they stand, and whatever stands behind them.
func TestDecodeOfMembersThatMayNotBe(t *testing.T) {
	for _, l := range wrongMembers() {
		if slices.ContainsFunc(l, func(who int) bool { return who != int(byte(who)) }) || len(l) > 255 {
			continue // bytes have no such list
		}
		noMembers(t, plainMembers(l), api.ErrForm)
		noMembers(t, plainMembers(l)+"more", api.ErrForm)
	}
	for who := range 256 {
		for _, ahead := range [][]int{nil, {0}, {0, 7}, {14}, {15}} {
			l := append(slices.Clone(ahead), who)
			if head.Members(l) {
				isHeader(t, of(l...))
			} else {
				noMembers(t, plainMembers(l), api.ErrForm)
			}
		}
	}
}

// Promise 8.1: the first error of a list is told: a number that may not be ahead of where the bytes end, and the end ahead of what would be behind it.
func TestDecodeTellsTheFirstOfAList(t *testing.T) {
	for _, s := range []string{"\x03\x03\x00", "\x03\x03\x03", "\x03\x10", "\x02\xff", "\x10\x00\x01\x01", "\x0f\x0e\x0d"} {
		noMembers(t, s, api.ErrForm)
	}
	for _, s := range []string{"\x03\x03", "\x03\x00\x03", "\x02\x0f", "\x10" + plainMembers(upTo(15))[1:]} {
		noMembers(t, s, api.ErrCut)
	}
}

// Promise 8.1: ErrHead at a Height 0, behind all errors of the bytes, and ahead of ErrMore.
func TestDecodeOfNoHeight(t *testing.T) {
	for _, members := range rightMembers() {
		h := of(members...)
		h.Height = 0
		s := plainBytes(h)
		noHeader(t, s, api.ErrHead)
		noHeader(t, s+"more", api.ErrHead)
		for n := range len(s) {
			noHeader(t, s[:n], api.ErrCut)
		}
		front := plainFront(h)
		for _, bad := range []string{"\x00", "\x11", "\xff" + sample(0, 300), "\x02\x03\x00", "\x01\x10", "\x02\x05\x05more"} {
			noHeader(t, front+bad, api.ErrForm)
		}
	}
}

// Promise 8.1: headers and lists that were put are taken one by one, with what stands between them.
func TestPutAndTake(t *testing.T) {
	w, all := wire.NewWriter(), ""
	for _, h := range right() {
		w.Text("between")
		head.Put(w, h)
		w.Bool(true)
		head.PutMembers(w, h.Members)
		all += plainText("between") + plainBytes(h) + "\x01" + plainMembers(h.Members)
	}
	if w.All() != all {
		t.Fatalf("%q, want %q", w.All(), all)
	}
	r := wire.NewReader(w.All())
	for _, h := range right() {
		if s := r.Text(100); s != "between" {
			t.Fatalf("%q ahead of %#v", s, h)
		}
		from := r.At()
		if k := head.Take(r); !plainSame(h, k) || r.Err() != api.OK || r.At() != from+len(plainBytes(h)) {
			t.Fatalf("%#v, %d, at %d, want %#v from %d on", k, r.Err(), r.At(), h, from)
		}
		if !r.Bool() {
			t.Fatalf("behind %#v: %d", h, r.Err())
		}
		if l := head.TakeMembers(r); !slices.Equal(l, h.Members) || r.Err() != api.OK {
			t.Fatalf("%v, %d, want %v", l, r.Err(), h.Members)
		}
	}
	if e := r.End(); e != api.OK {
		t.Error(e)
	}
}

// Promise 8.1: Put and PutMembers put what may not be as it stands, by the writer's own words.
func TestPutOfWhatMayNotBe(t *testing.T) {
	for _, h := range wrong() {
		w, v := wire.NewWriter(), wire.NewWriter()
		w.Text("ahead")
		head.Put(w, h)
		if want := plainText("ahead") + plainBytes(h); w.All() != want {
			t.Errorf("%#.300v: %.500q, want %.500q", h, w.All(), want)
		}
		head.PutMembers(v, h.Members)
		if v.All() != plainMembers(h.Members) {
			t.Errorf("%v: %q", h.Members, v.All())
		}
	}
}

// Promise 8.1: a reader that has an error keeps it, and nothing is taken of it.
func TestTakeBehindAnError(t *testing.T) {
	for _, e := range []api.Errno{api.ErrForm, api.ErrCut, api.ErrHead, api.ErrMac, -1, 999} {
		for _, s := range []string{"", "\x00", "\x01\x00", "\xff", plainBytes(of(0, 1)), plainBytes(api.Header{}), plainMembers(upTo(3))} {
			r := wire.NewReader("ab" + s)
			r.Bytes(2)
			r.Fail(e)
			if h := head.Take(r); !empty(h) || r.Err() != e || r.At() != 2 {
				t.Errorf("%#v, the error %d, at %d; want %d", h, r.Err(), r.At(), e)
			}
			if l := head.TakeMembers(r); len(l) != 0 || r.Err() != e || r.At() != 2 {
				t.Errorf("%v, the error %d, at %d; want %d", l, r.Err(), r.At(), e)
			}
		}
	}
}

// Promise 8.1: the error of a Take is the reader's: nothing is taken behind it.
func TestTakeLaysItsError(t *testing.T) {
	none := of(0)
	none.Height = 0
	good := plainBytes(of(0, 1))
	r := wire.NewReader(plainBytes(none) + good)
	head.Take(r)
	if h := head.Take(r); !empty(h) || r.Err() != api.ErrHead || r.End() != api.ErrHead {
		t.Errorf("%#v, %d", h, r.Err())
	}
	r = wire.NewReader(plainMembers([]int{1, 0}) + plainMembers([]int{0, 1}))
	head.TakeMembers(r)
	if l := head.TakeMembers(r); len(l) != 0 || r.Err() != api.ErrForm || r.End() != api.ErrForm {
		t.Errorf("%v, %d", l, r.Err())
	}
}

// Promise 8.1: of a nil reader nothing; a nil writer gets nothing.
func TestNil(t *testing.T) {
	if h := head.Take(nil); !empty(h) {
		t.Errorf("%#v", h)
	}
	if l := head.TakeMembers(nil); len(l) != 0 {
		t.Error(l)
	}
	for _, h := range []api.Header{of(0, 1), of(), {}} {
		var w *wire.Writer
		head.Put(w, h)
		head.PutMembers(w, h.Members)
		if w.Len() != 0 || w.All() != "" {
			t.Errorf("%q", w.All())
		}
	}
}

// Rule R2: what is decoded is its own.
func TestDecodedIsItsOwn(t *testing.T) {
	h := of(0, 3, 9)
	s := plainBytes(h)
	a, _ := head.Decode(s)
	b, _ := head.Decode(s)
	a.Members[0] = 99
	if c, _ := head.Decode(s); !plainSame(b, h) || !plainSame(c, h) {
		t.Errorf("%#v, %#v", b, c)
	}
}

// Promise 8.1: digests that were worked out elsewhere.
func TestDigestsByHand(t *testing.T) {
	h := api.Header{Height: 1, Prev: plainDigest(""), TxRoot: plainDigest(""), StateRoot: plainDigest(""), Members: []int{0, 3}}
	for _, c := range []struct{ got, want string }{
		{head.Hash(h), "7ea25a9b8050768533d6d7eff9f37e416a97d1f4bc700609a86f6ac625a82a7e"},
		{head.Genesis("muniment", []int{0, 1, 2}), "865fa4f4faa7d106321fc2362806512b0a533318180d9d464c97a1eeabec7763"},
	} {
		if got := hex.EncodeToString([]byte(c.got)); got != c.want {
			t.Errorf("%s, want %s", got, c.want)
		}
	}
}

// Promise 8.1: the digest is that of the bytes for the purpose H, of what may not be, too.
func TestHash(t *testing.T) {
	for _, h := range slices.Concat(right(), wrong()) {
		if got, want := head.Hash(h), plainTagged("H", plainBytes(h)); got != want {
			t.Errorf("%#.300v: %x, want %x", h, got, want)
		}
	}
}

// Promise 8.1: headers that may be and differ in any one thing have digests of their own.
func TestHashTellsApart(t *testing.T) {
	seen := map[string]api.Header{}
	for _, h := range append(changed(of(0, 3, 9)), of(0, 3, 9)) {
		if head.Check(h) != api.OK {
			continue
		}
		id := head.Hash(h)
		if k, ok := seen[id]; ok && !plainSame(h, k) {
			t.Errorf("%#v and %#v have one digest", h, k)
		}
		seen[id] = h
	}
	if len(seen) < 100 {
		t.Error(len(seen))
	}
}

// Promise 8.1: ahead of the first stands the digest for the purpose G of the name as a text and who takes part, as one part.
func TestGenesis(t *testing.T) {
	seen := map[string]string{}
	for _, name := range []string{"", "\x00", "a", "b", "ab", "muniment", "\x00\x00\x00\x01a", "\x01\x00", sample(0, 255), sample(0, 256), sample(1, 256), sample(0, 70000)} {
		for _, l := range append(rightMembers(), nil, []int{3, 0}, []int{16}, []int{-1}, upTo(17)) {
			part := plainText(name) + plainMembers(l)
			got := head.Genesis(name, l)
			if got != plainTagged("G", part) {
				t.Errorf("%.100q, %v: %x, want %x", name, l, got, plainTagged("G", part))
			}
			if elder, ok := seen[got]; ok && elder != part {
				t.Errorf("%.100q and %.100q have one digest", part, elder)
			}
			seen[got] = part
		}
	}
	if head.Genesis("a", nil) != head.Genesis("a", []int{}) {
		t.Error("nil and empty lists are not the same")
	}
}

// drawnText is so many bytes.
func drawnText(d *rand.Rand, n int) string {
	b := make([]byte, n)
	d.Read(b)
	return string(b)
}

// drawn is a header that may be.
func drawn(d *rand.Rand) api.Header {
	h := api.Header{Height: d.Uint64()>>d.Intn(64) | 1, Prev: drawnText(d, 32), TxRoot: drawnText(d, 32), StateRoot: drawnText(d, 32)}
	for len(h.Members) == 0 {
		for who := range api.MaxReplicas {
			if d.Intn(3) == 0 {
				h.Members = append(h.Members, who)
			}
		}
	}
	return h
}

// Promise 8.1: what was encoded is decoded again, whatever it is.
func TestDecodeOfWhatWasEncoded(t *testing.T) {
	d := rand.New(rand.NewSource(8))
	for range 5000 {
		isHeader(t, drawn(d))
	}
}

// Promise 8.1: bytes of which some are others are refused, or are just those of the header that they are taken for.
func TestDecodeOfAnyBytes(t *testing.T) {
	d := rand.New(rand.NewSource(81))
	taken := 0
	for range 50000 {
		h := drawn(d)
		b := []byte(plainBytes(h))
		for range 1 + d.Intn(2) {
			at := len(b) - 1 - d.Intn(len(h.Members)+1)
			b[at] = byte(d.Intn(256) >> d.Intn(8))
		}
		k, e := head.Decode(string(b))
		if e != api.OK {
			if !empty(k) {
				t.Fatalf("%q: %#v beside the error %d", b, k, e)
			}
			continue
		}
		taken++
		if head.Check(k) != api.OK || plainBytes(k) != string(b) {
			t.Fatalf("%q is taken for %#v", b, k)
		}
	}
	if taken == 0 || taken == 50000 {
		t.Errorf("%d were taken", taken)
	}
}

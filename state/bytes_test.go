package state_test

import (
	"fmt"
	"math"
	"math/rand"
	"slices"
	"testing"

	"muniment/api"
	"muniment/state"
)

// plainBytes is the bytes of texts and what they have, as they stand, right or not.
func plainBytes(l ...pair) string {
	all := plainCount(len(l))
	for _, p := range l {
		all += plainText(p.text) + plainText(p.value)
	}
	return all
}

// last is what a client's text has.
func last(nonce uint64) string { return plain8(nonce) + sample(api.HashBytes) }

// client is a client's text.
func client(n uint64) string { return "n" + plain8(n) }

// noState holds that bytes are no state: the error, and nil.
func noState(t *testing.T, b string, want api.Errno) {
	t.Helper()
	if s, e := state.Decode(b); e != want || s != nil {
		t.Errorf("%.300q: %v, %d, want the error %d", b, s, e, want)
	}
}

// isState holds that bytes are a state with just these texts.
func isState(t *testing.T, l ...pair) {
	t.Helper()
	s, e := state.Decode(plainBytes(l...))
	if e != api.OK || !slices.Equal(pairs(s), l) || s.Len() != len(l) || s.Encode() != plainBytes(l...) {
		t.Errorf("%.300q: %d, %.300q", l, e, pairs(s))
	}
}

// Promise 5.3: a state's bytes, written out by hand.
func TestEncodeByHand(t *testing.T) {
	x := of(258, 1, put("b", "xyz"), put("a", ""))
	s := done(t, state.New(), x)
	want := "\x00\x00\x00\x03" +
		"\x00\x00\x00\x02ka" + "\x00\x00\x00\x00" +
		"\x00\x00\x00\x02kb" + "\x00\x00\x00\x03xyz" +
		"\x00\x00\x00\x09n\x00\x00\x00\x00\x00\x00\x01\x02" + "\x00\x00\x00\x28\x00\x00\x00\x00\x00\x00\x00\x01" + plainID(x)
	if got := s.Encode(); got != want {
		t.Errorf("%q, want %q", got, want)
	}
	if k, e := state.Decode(want); e != api.OK || !state.Same(s, k) {
		t.Errorf("%q: %d", pairs(k), e)
	}
}

// Promise 5.3: an empty state's bytes.
func TestEncodeOfNothing(t *testing.T) {
	if got := state.New().Encode(); got != "\x00\x00\x00\x00" {
		t.Errorf("%q", got)
	}
	isState(t)
}

// Promise 5.3: the texts rise in the bytes.
func TestEncode(t *testing.T) {
	s := some(t)
	if got, want := s.Encode(), plainBytes(pairs(s)...); got != want || len(pairs(s)) != 10 {
		t.Errorf("%q, want %q", got, want)
	}
}

// Promise 5.3: all that texts can have is taken, up to its ends.
func TestDecode(t *testing.T) {
	for _, key := range []string{"\x00", "a", "k", "n", "\xff", sample(api.MaxKey - 1), sample(api.MaxKey)} {
		for _, value := range []string{"", "\x00", "1", sample(8 + api.HashBytes), sample(api.MaxValue - 1), sample(api.MaxValue)} {
			isState(t, pair{"k" + key, value})
			isState(t, pair{"k" + key, value}, pair{client(1), last(1)})
		}
	}
	for _, n := range []uint64{0, 1, 256, math.MaxUint64} {
		for _, nonce := range []uint64{1, 256, 1 << 56, 1 << 63, math.MaxUint64} {
			isState(t, pair{client(n), last(nonce)})
		}
	}
	isState(t, pair{"k\x00", ""}, pair{"k\x00\x00", ""}, pair{"k\x01", ""}, pair{"kz", "1"}, pair{"kzz", "1"}, pair{"k\xff", ""},
		pair{client(0), last(1)}, pair{client(1), last(5)}, pair{client(256), last(2)})
	isState(t, pair{client(1), plain8(1) + string(make([]byte, api.HashBytes))})
}

// Promise 5.3: bytes that end anywhere are ErrCut; those that go on are ErrMore.
func TestDecodeOfBytesThatEndOrGoOn(t *testing.T) {
	for _, s := range []*state.State{some(t), state.New(), done(t, state.New(), of(1, 1, put("a", "1")))} {
		b := s.Encode()
		for n := range len(b) {
			noState(t, b[:n], api.ErrCut)
		}
		for _, more := range []string{"\x00", "x", b, plainText("kz"), sample(5000)} {
			noState(t, b+more, api.ErrMore)
		}
	}
}

// Promise 5.3: more texts than there may be, or longer ones, are ErrMany.
func TestDecodeOfTooMuch(t *testing.T) {
	for _, n := range []int{api.MaxKeys + 1, api.MaxKeys + 2, 1 << 16, 1 << 24, 1 << 31, 1<<32 - 1} {
		for _, behind := range []string{"", "x", some(t).Encode(), sample(1000)} {
			noState(t, plainCount(n)+behind, api.ErrMany)
		}
	}
	for _, n := range []int{1, 2, 1000, 1 << 20} {
		for _, mark := range []string{"k", "n", "x"} {
			noState(t, plainBytes(pair{mark + sample(api.MaxKey+n), "1"}), api.ErrMany)
			noState(t, plainBytes(pair{"ka", "1"}, pair{mark + sample(api.MaxKey+n), "1"}), api.ErrMany)
		}
		for _, text := range []string{"ka", client(1), "", "x"} {
			noState(t, plainBytes(pair{text, sample(api.MaxValue + n)}), api.ErrMany)
		}
	}
	noState(t, plainCount(1)+"\xff\xff\xff\xff", api.ErrMany)
	noState(t, plainCount(1)+plainText("ka")+"\xff\xff\xff\xff", api.ErrMany)
}

// Promise 5.3: as many texts as there may be, with all that they can have, are taken; then there is no room for one more.
func TestDecodeOfAllThereMayBe(t *testing.T) {
	var l []pair
	for i := range api.MaxKeys - 2 {
		l = append(l, pair{"k" + fmt.Sprintf("%04d", i) + sample(api.MaxKey-4), sample(api.MaxValue)})
	}
	l = append(l, pair{client(1), last(1)}, pair{client(2), last(math.MaxUint64)})
	isState(t, l...)
	s, _ := state.Decode(plainBytes(l...))
	refused(t, s, of(1, 2, put("a", "1")), api.ErrRoom)
	refused(t, s, of(3, 1, none("a")), api.ErrRoom)
	noState(t, plainBytes(append(l, pair{client(3), last(1)})...), api.ErrMany)
}

// Promise 5.3: ErrForm where a text does not rise.
func TestDecodeOfTextsThatDoNotRise(t *testing.T) {
	all := pairs(some(t))
	for i := range all {
		for j := range i {
			l := slices.Clone(all)
			l[i], l[j] = l[j], l[i]
			noState(t, plainBytes(l...), api.ErrForm)
		}
		noState(t, plainBytes(slices.Insert(slices.Clone(all), i, all[i])...), api.ErrForm)
	}
	noState(t, plainBytes(pair{"ka", "1"}, pair{"ka", "2"}), api.ErrForm)
	noState(t, plainBytes(pair{"kab", "1"}, pair{"ka", "1"}), api.ErrForm)
	noState(t, plainBytes(pair{"k\xff", "1"}, pair{"kz", "1"}), api.ErrForm)
	noState(t, plainBytes(pair{client(256), last(1)}, pair{client(1), last(1)}), api.ErrForm)
	noState(t, plainBytes(pair{client(1), last(1)}, pair{"ka", "1"}), api.ErrForm)
}

// Promise 5.3: ErrForm where a text stands for nothing.
func TestDecodeOfTextsThatAreNone(t *testing.T) {
	for _, text := range []string{
		"", "k", "n", "a", "x", "\x00", "\xff", "K" + "a", "N" + plain8(1), "j" + "a", "l" + "a", "m" + plain8(1), "o" + plain8(1), plain8(1),
		client(1)[:8], client(1) + "\x00", "n" + plain8(1)[1:], "n" + sample(api.MaxKey), "nn", " ka",
	} {
		for _, value := range []string{"", "1", last(1)} {
			noState(t, plainBytes(pair{text, value}), api.ErrForm)
			noState(t, plainBytes(pair{text, value}, pair{client(math.MaxUint64), last(1)}), api.ErrForm)
			noState(t, plainBytes(pair{"kA", ""}, pair{text, value}), api.ErrForm)
		}
	}
}

// Promise 5.3: ErrForm where a client's text has what it can't have.
func TestDecodeOfWhatTextsCannotHave(t *testing.T) {
	for _, value := range []string{
		"", "1", plain8(1), sample(api.HashBytes), last(1)[1:], last(1)[:39], last(1) + "\x00", sample(api.MaxValue), last(0), string(make([]byte, 40)),
	} {
		noState(t, plainBytes(pair{client(1), value}), api.ErrForm)
		noState(t, plainBytes(pair{"ka", "1"}, pair{client(1), value}, pair{client(2), last(1)}), api.ErrForm)
		noState(t, plainBytes(pair{"ka", "1"}, pair{client(0), last(1)}, pair{client(1), value}), api.ErrForm)
	}
}

// Promise 5.3: an error of the bytes up to a place comes ahead of ErrForm there, and that ahead of all behind it.
func TestDecodeTellsTheFirst(t *testing.T) {
	good := plainText("ka") + plainText("1")
	for _, bad := range []string{
		plainText("ka") + plainText("2"), plainText("k") + plainText("1"), plainText("") + plainText(""),
		plainText(client(1)) + plainText(last(0)), plainText(client(1)) + plainText("1"),
	} {
		for n := range len(bad) {
			noState(t, plainCount(2)+good+bad[:n], api.ErrCut)
		}
		for _, behind := range []string{"", "x", good, "\xff\xff\xff\xff", plainText(sample(api.MaxKey + 2))} {
			noState(t, plainCount(2)+good+bad+behind, api.ErrForm)
			noState(t, plainCount(3)+good+bad+behind, api.ErrForm)
		}
	}
	noState(t, plainCount(2)+good+plainText("k")+plainText(sample(api.MaxValue+1)), api.ErrMany)
	noState(t, plainCount(2)+good+plainText(sample(api.MaxKey+2))+plainText("1"), api.ErrMany)
}

// Promise 5.3: what was encoded is decoded again, and goes on as it was, on its own.
func TestDecodeOfWhatWasEncoded(t *testing.T) {
	d := rand.New(rand.NewSource(53))
	s := state.New()
	for range 1000 {
		k, e := state.Decode(s.Encode())
		if e != api.OK || k == s || !state.Same(s, k) || !slices.Equal(pairs(s), pairs(k)) {
			t.Fatalf("%q: %d", s.Encode(), e)
		}
		x := drawn(d, s, 20)
		l, e := s.Apply(x)
		if e == api.OK && state.Same(s, k) {
			t.Fatalf("%#v is done to both", x)
		}
		if m, f := k.Apply(x); e != f || !slices.Equal(l, m) || !state.Same(s, k) {
			t.Fatalf("%#v: %q, %d and %q, %d", x, l, e, m, f)
		}
	}
}

// Promise 5.3: bytes of which some are others are refused, or are just those of the state that they are taken for.
func TestDecodeOfAnyBytes(t *testing.T) {
	d := rand.New(rand.NewSource(530))
	whole, taken := some(t).Encode(), 0
	for range 50000 {
		b := []byte(whole)
		for range 1 + d.Intn(2) {
			b[d.Intn(len(b))] = byte(d.Intn(256) >> d.Intn(8))
		}
		s, e := state.Decode(string(b))
		if e != api.OK {
			if s != nil {
				t.Fatalf("%q: a state beside the error %d", b, e)
			}
			continue
		}
		taken++
		if s.Encode() != string(b) {
			t.Fatalf("%q is taken for %q", b, pairs(s))
		}
	}
	if taken == 0 || taken == 50000 {
		t.Errorf("%d were taken", taken)
	}
	for range 20000 {
		b := make([]byte, d.Intn(100))
		for i := range b {
			b[i] = byte(d.Intn(256) >> d.Intn(9))
		}
		if s, e := state.Decode(string(b)); (e == api.OK) != (s != nil) || s != nil && s.Encode() != string(b) {
			t.Fatalf("%q: %d", b, e)
		}
	}
}

package state_test

import (
	"maps"
	"math"
	"math/rand"
	"slices"
	"strconv"
	"testing"

	"muniment/api"
	"muniment/state"
)

// refused holds that a transaction is not done: the error, no texts, and nothing is changed.
func refused(t *testing.T, s *state.State, x api.Tx, want api.Errno) {
	t.Helper()
	was, bytes, all := s.Clone(), s.Encode(), pairs(s)
	l, e := s.Apply(x)
	if e != want || len(l) != 0 {
		t.Errorf("%#.300v: %q, %d, want the error %d", x, l, e, want)
	}
	if !state.Same(s, was) || s.Encode() != bytes || !slices.Equal(pairs(s), all) {
		t.Errorf("%#.300v: the error %d, and something is changed", x, e)
	}
}

// tells holds that a transaction is done, and which texts it tells of.
func tells(t *testing.T, s *state.State, x api.Tx, want ...string) {
	t.Helper()
	if l, e := s.Apply(x); e != api.OK || !slices.Equal(l, want) {
		t.Errorf("%#v: %q, %d, want %q", x, l, e, want)
	}
	if n, id := s.Last(x.Client); n != x.Nonce || id != plainID(x) {
		t.Errorf("%#v: the client's last one is %d, %x", x, n, id)
	}
}

// Promise 5.2, the chapter's example: a check that falls changes nothing.
func TestExample(t *testing.T) {
	s := done(t, state.New(), of(1, 1, put("a", "1")))
	refused(t, s, of(1, 2, check("a", "x")), api.ErrCheck)
	if v, is := s.Get("a"); v != "1" || !is {
		t.Errorf("%q, %t", v, is)
	}
	if n, _ := s.Last(1); n != 1 {
		t.Error(n)
	}
	tells(t, s, of(1, 2, check("a", "1"), put("a", "x")), "ka", state.NonceOf(1))
}

// Promise 5.2: what a transaction does, operation by operation.
func TestApply(t *testing.T) {
	s := state.New()
	tells(t, s, of(1, 1, put("a", "1"), put("b", "2")), "ka", "kb", state.NonceOf(1))
	first := plain8(1) + plainID(of(1, 1, put("a", "1"), put("b", "2")))
	holds(t, s, map[string]string{"ka": "1", "kb": "2", "n" + plain8(1): first})
	x := of(2, 1, none("c"), put("c", ""), check("c", ""), del("a"), none("a"), check("b", "2"), put("b", "3"), check("b", "3"))
	tells(t, s, x, "ka", "kb", "kc", state.NonceOf(2))
	holds(t, s, map[string]string{"kb": "3", "kc": "", "n" + plain8(1): first, "n" + plain8(2): plain8(1) + plainID(x)})
	y := of(2, 2, del("b"), del("c"))
	tells(t, s, y, "kb", "kc", state.NonceOf(2))
	holds(t, s, map[string]string{"n" + plain8(1): first, "n" + plain8(2): plain8(2) + plainID(y)})
}

// Promise 5.2: the texts that were put or taken away, and the client's, rising, each once.
func TestApplyTellsTexts(t *testing.T) {
	me := state.NonceOf(9)
	for _, c := range []struct {
		ops  []api.Op
		want []string
	}{
		{[]api.Op{check("a", "1")}, nil},
		{[]api.Op{none("x"), check("a", "1"), none("y")}, nil},
		{[]api.Op{put("a", "1")}, []string{"ka"}}, // what it has already
		{[]api.Op{put("x", "1"), put("x", "2"), put("x", "1")}, []string{"kx"}},
		{[]api.Op{del("a")}, []string{"ka"}},
		{[]api.Op{del("x")}, []string{"kx"}}, // it has none
		{[]api.Op{put("x", "1"), del("x")}, []string{"kx"}},
		{[]api.Op{del("a"), put("a", "1")}, []string{"ka"}},
		{[]api.Op{put("y", ""), del("b"), none("z"), put("x", ""), check("a", "1"), del("y")}, []string{"kb", "kx", "ky"}},
		{[]api.Op{put("\xff", ""), put("\x00", ""), put("zz", ""), put("z", ""), put("a\x00", ""), put("n", ""), put("k", "")},
			[]string{"k\x00", "ka\x00", "kk", "kn", "kz", "kzz", "k\xff"}},
	} {
		s := done(t, state.New(), of(1, 1, put("a", "1"), put("b", "2")))
		tells(t, s, of(9, 1, c.ops...), append(c.want, me)...)
	}
}

// Promise 5.2: what is told is the caller's own, and what was handed in may be changed (R2).
func TestApplyKeepsNothing(t *testing.T) {
	s := state.New()
	ops := []api.Op{put("b", "2"), put("a", "1"), check("a", "1")}
	x := of(1, 1, ops...)
	l, _ := s.Apply(x)
	if !slices.Equal(ops, []api.Op{put("b", "2"), put("a", "1"), check("a", "1")}) {
		t.Errorf("what was handed in is changed: %v", ops)
	}
	bytes := s.Encode()
	clear(l)
	clear(ops)
	l = append(l[:0], "changed")
	if s.Encode() != bytes || l[0] != "changed" {
		t.Errorf("%q, want %q", s.Encode(), bytes)
	}
	tells(t, s, of(1, 2, del("a")), "ka", state.NonceOf(1))
}

// wrong is transactions that may not be.
func wrong(client, nonce uint64) []api.Tx {
	out := []api.Tx{
		of(client, nonce),
		of(client, 0, put("a", "1")),
		of(client, nonce, slices.Repeat([]api.Op{put("a", "1")}, api.MaxOps+1)...),
	}
	for _, o := range []api.Op{
		put("", "1"), put(sample(api.MaxKey+1), "1"), put("a", sample(api.MaxValue+1)), {Kind: 0, Key: "a"}, {Kind: 5, Key: "a"},
		{Kind: api.OpDel, Key: "a", Value: "1"}, {Kind: api.OpNone, Key: "a", Value: "1"}, check("", ""), none(sample(api.MaxKey + 1)),
	} {
		out = append(out, of(client, nonce, o), of(client, nonce, put("x", "1"), del("a"), o))
	}
	return out
}

// Promise 5.2: ErrTx for a transaction that may not be, ahead of all that hangs on the state.
func TestApplyOfWhatMayNotBe(t *testing.T) {
	for _, s := range []*state.State{state.New(), done(t, state.New(), of(1, 1, put("a", "1")))} {
		for nonce := range uint64(4) {
			for _, x := range wrong(1, nonce) {
				refused(t, s, x, api.ErrTx)
				x.Ops = append(slices.Clone(x.Ops), check("a", "another"))
				x.Nonce = 0
				refused(t, s, x, api.ErrTx)
			}
		}
	}
}

// Promise 5.2: ErrNonce, if the number is not one above the client's last one; each client counts for itself.
func TestApplyCounts(t *testing.T) {
	s := state.New()
	for last := range uint64(4) {
		for _, client := range []uint64{0, 1, 256, math.MaxUint64} {
			for _, nonce := range []uint64{1, 2, 3, 4, 5, 6, 256, 257, 1 << 32, 1<<32 + last + 1, 1 << 63, math.MaxUint64 - 1, math.MaxUint64} {
				if nonce != last+1 {
					refused(t, s, of(client, nonce, put("a", "1")), api.ErrNonce)
					refused(t, s, of(client, nonce, check("a", "another")), api.ErrNonce)
				}
			}
			tells(t, s, of(client, last+1, put("a", "1")), "ka", state.NonceOf(client))
		}
	}
}

// Promise 5.2: behind the greatest number there is none.
func TestApplyBehindTheGreatestNumber(t *testing.T) {
	last := plain8(math.MaxUint64-1) + sample(api.HashBytes)
	s, e := state.Decode(plainCount(1) + plainText("n"+plain8(1)) + plainText(last))
	if e != api.OK {
		t.Fatal(e)
	}
	refused(t, s, of(1, math.MaxUint64-1, put("a", "1")), api.ErrNonce)
	tells(t, s, of(1, math.MaxUint64, put("a", "1")), "ka", state.NonceOf(1))
	refused(t, s, of(1, 0, put("a", "1")), api.ErrTx)
	for _, nonce := range []uint64{1, 2, math.MaxUint64 - 1, math.MaxUint64} {
		refused(t, s, of(1, nonce, put("a", "1")), api.ErrNonce)
	}
}

// Promise 5.2: ErrCheck where a key has not what it must have, by what the operations ahead did; with it nothing is changed.
func TestApplyOfChecksThatFall(t *testing.T) {
	for _, ops := range [][]api.Op{
		{check("a", "")},
		{check("a", "2")},
		{check("a", "11")},
		{check("a", "1\x00")},
		{check("empty", "1")},
		{check("x", "1")},
		{check("x", "")}, // a key that has none has no empty value
		{none("a")},
		{none("empty")},
		{del("a"), check("a", "1")},
		{del("a"), check("a", "")},
		{put("a", "2"), check("a", "1")},
		{put("a", "2"), none("a")},
		{put("x", "1"), none("x")},
		{put("x", "1"), check("x", "2")},
		{put("x", "1"), del("x"), check("x", "1")},
		{del("a"), put("a", "3"), check("a", "1")},
		{check("a", "1"), put("a", "2"), put("y", "1"), del("empty"), check("a", "2"), del("b"), none("b"), check("b", "2")},
		{none("a"), del("a")}, // what comes behind does not mend it
		{check("a", "2"), put("a", "2")},
		{put("y", "1"), check("x", "1"), put("x", "1"), del("y")},
	} {
		s := done(t, state.New(), of(1, 1, put("a", "1"), put("b", "2"), put("empty", "")))
		refused(t, s, of(1, 2, ops...), api.ErrCheck)
		refused(t, s, of(2, 1, ops...), api.ErrCheck)
		tells(t, s, of(1, 2, check("a", "1")), state.NonceOf(1)) // the number was not used up
	}
}

// filled is a state of so many texts: those of keys 0, 1 .., with as many clients as are told.
func filled(t *testing.T, texts int, clients uint64) *state.State {
	t.Helper()
	s, key := state.New(), 0
	for client := range clients {
		done(t, s, of(client, 1, none("x")))
	}
	for nonce := uint64(2); s.Len() < texts; nonce++ {
		x := of(0, nonce)
		for range min(api.MaxOps, texts-s.Len()) {
			x.Ops = append(x.Ops, put(strconv.Itoa(key), "v"))
			key++
		}
		done(t, s, x)
	}
	if s.Len() != texts {
		t.Fatal(s.Len())
	}
	return s
}

// next is the next transaction of a client.
func next(s *state.State, client uint64, ops ...api.Op) api.Tx {
	last, _ := s.Last(client)
	return of(client, last+1, ops...)
}

// Promise 5.2: there may be MaxKeys texts, the client's counted, too, and not one more.
func TestApplyFillsUp(t *testing.T) {
	for _, clients := range []uint64{1, 2, 100} {
		s := filled(t, api.MaxKeys-2, clients)
		refused(t, s, next(s, 0, put("x", "1"), put("y", "1"), put("z", "1")), api.ErrRoom)
		refused(t, s, next(s, 1000, put("x", "1"), put("y", "1")), api.ErrRoom)
		tells(t, s.Clone(), next(s, 1000, put("x", "1")), "kx", state.NonceOf(1000))
		tells(t, s, next(s, 0, put("x", "1"), put("y", "1")), "kx", "ky", state.NonceOf(0))
		if s.Len() != api.MaxKeys {
			t.Fatal(s.Len())
		}
		refused(t, s, next(s, 0, put("z", "1")), api.ErrRoom)
		refused(t, s, next(s, 0, check("x", "1"), put("z", "1"), check("z", "1")), api.ErrRoom)
		refused(t, s, next(s, 1000, check("x", "1")), api.ErrRoom)
		refused(t, s, next(s, 0, put("z", "1"), check("z", "2")), api.ErrCheck)
		refused(t, s, of(0, 1, put("z", "1")), api.ErrNonce)
		tells(t, s, next(s, 0, put("x", "2"), put("y", "2")), "kx", "ky", state.NonceOf(0))
		tells(t, s, next(s, 0, del("x")), "kx", state.NonceOf(0))
		tells(t, s, next(s, 1000, check("y", "2")), state.NonceOf(1000))
		refused(t, s, next(s, 0, put("x", "1")), api.ErrRoom)
	}
}

// Promise 5.2: on the way there may be more texts than there may be behind the last operation.
func TestApplyOnTheWay(t *testing.T) {
	s := filled(t, api.MaxKeys, 1)
	tells(t, s, next(s, 0, put("x", "1"), put("y", "1"), put("z", "1"), del("x"), del("0"), del("z")), "k0", "kx", "ky", "kz", state.NonceOf(0))
	tells(t, s, next(s, 0, put("x", "1"), del("x")), "kx", state.NonceOf(0))
	tells(t, s, next(s, 0, del("1"), put("x", "1")), "k1", "kx", state.NonceOf(0))
	tells(t, s, next(s, 1, put("1", "1"), del("2"), del("3")), "k1", "k2", "k3", state.NonceOf(1))
	refused(t, s, next(s, 0, put("2", "1"), del("4"), put("3", "1")), api.ErrRoom)
	refused(t, s, next(s, 2, put("2", "1"), del("4")), api.ErrRoom)
	refused(t, s, next(s, 0, del("nobody"), put("2", "1")), api.ErrRoom)
	if s.Len() != api.MaxKeys {
		t.Error(s.Len())
	}
}

// plain is the document's words as they stand: texts and what they have.
type plain map[string]string

// apply is the plain state behind a transaction that may be, which texts it tells of, and the error.
func (p plain) apply(x api.Tx) (plain, []string, api.Errno) {
	me := "n" + plain8(x.Client)
	last := plain8(0)
	if has, is := p[me]; is {
		last = has[:8]
	}
	if plain8(x.Nonce-1) != last {
		return p, nil, api.ErrNonce
	}
	out, told := maps.Clone(p), map[string]int{me: 1}
	for _, o := range x.Ops {
		has, is := out["k"+o.Key]
		if o.Kind == api.OpCheck && (!is || has != o.Value) || o.Kind == api.OpNone && is {
			return p, nil, api.ErrCheck
		}
		switch o.Kind {
		case api.OpPut:
			out["k"+o.Key] = o.Value
			told["k"+o.Key] = 1
		case api.OpDel:
			delete(out, "k"+o.Key)
			told["k"+o.Key] = 1
		}
	}
	out[me] = plain8(x.Nonce) + plainID(x)
	if len(out) > api.MaxKeys {
		return p, nil, api.ErrRoom
	}
	return out, slices.Sorted(maps.Keys(told)), api.OK
}

// drawn is a transaction that may be, mostly a client's next one, on so many keys.
func drawn(d *rand.Rand, s *state.State, keys int) api.Tx {
	last, _ := s.Last(uint64(d.Intn(3)))
	x := of(uint64(d.Intn(3)), max(last, 1))
	if d.Intn(10) > 0 {
		x = next(s, x.Client)
	}
	for range 1 + d.Intn(api.MaxOps) {
		key := strconv.Itoa(d.Intn(keys))
		value, _ := s.Get(key)
		if d.Intn(4) == 0 {
			value = sample(d.Intn(4))
		}
		o := []api.Op{put(key, sample(d.Intn(4))), put(key, value), del(key), check(key, value), none(key)}[d.Intn(5)]
		if o.Kind != api.OpNone || d.Intn(3) == 0 || s.Len() < 5 {
			x.Ops = append(x.Ops, o)
		}
	}
	if len(x.Ops) == 0 {
		x.Ops = []api.Op{put("0", "1")}
	}
	return x
}

// Promises 5.1 and 5.2: whatever is done, it is as the document's words say.
func TestApplyAgainstWords(t *testing.T) {
	for _, keys := range []int{3, 10, 100} {
		d := rand.New(rand.NewSource(int64(keys)))
		s, p, seen := state.New(), plain{}, map[api.Errno]int{}
		for range 4000 {
			x := drawn(d, s, keys)
			after, told, want := p.apply(x)
			l, e := s.Apply(x)
			if e != want || !slices.Equal(l, told) {
				t.Fatalf("%#v: %q, %d, want %q, %d", x, l, e, told, want)
			}
			p = after
			seen[e]++
			holds(t, s, p)
		}
		for _, e := range []api.Errno{api.OK, api.ErrNonce, api.ErrCheck} {
			if seen[e] < 100 {
				t.Errorf("%d keys: the error %d %d times", keys, e, seen[e])
			}
		}
	}
}

// Promise 5.2: where there is hardly room it is as the document's words say, too.
func TestApplyAgainstWordsWithoutRoom(t *testing.T) {
	d := rand.New(rand.NewSource(52))
	s := filled(t, api.MaxKeys, 1)
	p := plain(maps.Collect(s.All()))
	rooms := 0
	for range 400 {
		x := drawn(d, s, 2*api.MaxKeys)
		after, told, want := p.apply(x)
		if l, e := s.Apply(x); e != want || !slices.Equal(l, told) {
			t.Fatalf("%#v: %q, %d, want %q, %d", x, l, e, told, want)
		}
		p = after
		if want == api.ErrRoom {
			rooms++
		}
		if s.Len() != len(p) || !maps.Equal(maps.Collect(s.All()), p) {
			t.Fatalf("%d texts, want %d", s.Len(), len(p))
		}
	}
	if rooms < 20 {
		t.Errorf("there was no room %d times", rooms)
	}
}

// Promise 5.4: the same transactions in the same order come to the same state, with what was refused among them or not, in a clone and in what was decoded, too.
func TestTheSameTransactions(t *testing.T) {
	d := rand.New(rand.NewSource(54))
	s := state.New()
	all, only := []*state.State{state.New(), state.New(), state.New()}, state.New()
	for i := range 2000 {
		x := drawn(d, s, 8)
		l, e := s.Apply(x)
		for _, other := range all {
			if m, f := other.Apply(x); f != e || !slices.Equal(l, m) {
				t.Fatalf("%#v: %q, %d and %q, %d", x, l, e, m, f)
			}
		}
		if e == api.OK {
			done(t, only, x)
		}
		if i%50 == 0 {
			all[1] = all[1].Clone()
			all[2], _ = state.Decode(all[2].Encode())
		}
		for j, other := range append(all, only) {
			if !state.Same(s, other) || s.Encode() != other.Encode() {
				t.Fatalf("behind %d transactions: the state %d is another one", i+1, j)
			}
		}
	}
}

package head_test

import (
	"math"
	"slices"
	"strings"
	"testing"

	"muniment/api"
	"muniment/head"
)

// sample is so many bytes, letters and others, from a place on.
func sample(from, n int) string { return strings.Repeat("\x00\x81\xffmuniment", n/11+3)[from : from+n] }

// digest is one of some unlike texts as long as digests.
func digest(which int) string { return sample(which, api.HashBytes) }

// upTo is the numbers below one, rising.
func upTo(n int) []int {
	var out []int
	for who := range n {
		out = append(out, who)
	}
	return out
}

// of is a header with those that take part.
func of(members ...int) api.Header {
	return api.Header{Height: 0x0102030405060708, Prev: digest(1), TxRoot: digest(2), StateRoot: digest(3), Members: members}
}

// rightMembers is lists that may be who takes part.
func rightMembers() [][]int {
	out := [][]int{{0, 3}, {0, 1, 2}, {1, 3, 5, 7, 9, 11, 13, 15}, {0, 15}, {14, 15}, upTo(15), upTo(16)[1:]}
	for who := range api.MaxReplicas {
		out = append(out, []int{who}, upTo(who+1), slices.Delete(upTo(16), who, who+1))
	}
	return out
}

// wrongMembers is lists that may not be who takes part, each for one reason alone, where that can be.
func wrongMembers() [][]int {
	out := [][]int{
		nil, {}, upTo(0),
		{-1}, {-1, 0}, {0, -1}, {-2, -1}, {math.MinInt}, {math.MinInt, 0, 1},
		{16}, {0, 16}, {17}, {0, 1, 2, 255}, {256}, {0, 257}, {math.MaxInt}, {0, math.MaxInt}, {1 << 32}, {1<<32 + 1},
		{0, 0}, {15, 15}, {3, 0}, {1, 0}, {15, 14}, {0, 2, 1}, {0, 1, 1}, {0, 0, 1}, {1, 2, 3, 2}, {0, 1, 2, 0},
		upTo(17), upTo(256), upTo(300), slices.Repeat([]int{0}, 16), append(upTo(16), 15), append(upTo(16), 0),
		slices.Repeat([]int{0}, 257), append([]int{0}, upTo(256)...),
	}
	for at := range api.MaxReplicas {
		low, high, twice := upTo(16), upTo(16), upTo(16)
		low[at], high[at] = -1, 16
		out = append(out, low, high)
		if at > 0 {
			twice[at] = at - 1
			out = append(out, twice)
		}
	}
	return out
}

// right is headers that may be.
func right() []api.Header {
	var out []api.Header
	for _, l := range rightMembers() {
		out = append(out, of(l...))
	}
	for _, height := range []uint64{1, 2, 255, 256, 1 << 32, 1 << 63, math.MaxUint64 - 1, math.MaxUint64} {
		h := of(0, 1, 2)
		h.Height = height
		out = append(out, h)
	}
	nought := strings.Repeat("\x00", api.HashBytes)
	return append(out, api.Header{Height: 1, Prev: nought, TxRoot: nought, StateRoot: nought, Members: []int{0}})
}

// wrongDigests is texts that are not as long as digests.
func wrongDigests() []string {
	return []string{"", "a", digest(1)[1:], digest(1)[:31], digest(1) + "\x00", "\x00" + digest(1), digest(1) + digest(1), sample(0, 256+32)}
}

// wrong is headers that may not be, each for one reason alone, but the empty one.
func wrong() []api.Header {
	out := []api.Header{{}}
	for _, l := range wrongMembers() {
		out = append(out, of(l...))
	}
	none := of(0, 1, 2)
	none.Height = 0
	out = append(out, none)
	for _, s := range wrongDigests() {
		prev, txs, state := of(0, 1, 2), of(0, 1, 2), of(0, 1, 2)
		prev.Prev, txs.TxRoot, state.StateRoot = s, s, s
		out = append(out, prev, txs, state)
	}
	return out
}

// deep is a header of its own, made by hand.
func deep(h api.Header) api.Header {
	l := make([]int, len(h.Members))
	for i, who := range h.Members {
		l[i] = who
	}
	h.Members = l
	return h
}

// plainSame tells whether two headers are the same, thing by thing.
func plainSame(a, b api.Header) bool {
	if a.Height != b.Height || a.Prev != b.Prev || a.TxRoot != b.TxRoot || a.StateRoot != b.StateRoot || len(a.Members) != len(b.Members) {
		return false
	}
	for i, who := range a.Members {
		if b.Members[i] != who {
			return false
		}
	}
	return true
}

// changed is headers that differ from a given one in one thing each.
func changed(h api.Header) []api.Header {
	var out []api.Header
	add := func(change func(k *api.Header)) {
		k := deep(h)
		change(&k)
		out = append(out, k)
	}
	for bit := range 64 {
		add(func(k *api.Header) { k.Height ^= 1 << bit })
	}
	for _, s := range append(wrongDigests(), digest(0), digest(1), digest(2), digest(3), digest(4)) {
		add(func(k *api.Header) { k.Prev = s })
		add(func(k *api.Header) { k.TxRoot = s })
		add(func(k *api.Header) { k.StateRoot = s })
	}
	add(func(k *api.Header) { k.Prev, k.TxRoot = k.TxRoot, k.Prev })
	add(func(k *api.Header) { k.TxRoot, k.StateRoot = k.StateRoot, k.TxRoot })
	for _, l := range slices.Concat(rightMembers(), wrongMembers()) {
		add(func(k *api.Header) { k.Members = l })
	}
	for i := range h.Members {
		add(func(k *api.Header) { k.Members[i]++ })
		add(func(k *api.Header) { k.Members[i] += 256 })
		add(func(k *api.Header) { k.Members = slices.Delete(k.Members, i, i+1) })
	}
	return out
}

// Promise 8.1, the chapter's example, and what it tells of Most: more than half, and no one fewer is.
func TestMost(t *testing.T) {
	if n := head.Most(4); n != 3 {
		t.Error(n)
	}
	for n, want := range []int{1, 1, 2, 2, 3, 3, 4, 4, 5, 5, 6, 6, 7, 7, 8, 8, 9, 9, 10} {
		if got := head.Most(n); got != want {
			t.Errorf("Most(%d): %d, want %d", n, got, want)
		}
	}
	for n := range 5000 {
		if most := head.Most(n); 2*most <= n || 2*(most-1) > n {
			t.Errorf("Most(%d): %d", n, most)
		}
	}
	for _, n := range []int{math.MaxInt - 1, math.MaxInt} {
		if most := head.Most(n); most <= n-most || most-1 > n-(most-1) {
			t.Errorf("Most(%d): %d", n, most)
		}
	}
}

// Promise 8.1: numbers 0 to MaxReplicas - 1, rising, one at least, may be who takes part; the header with them may be.
func TestMembers(t *testing.T) {
	for _, l := range rightMembers() {
		if !head.Members(l) {
			t.Errorf("%v may not be", l)
		}
	}
	for _, h := range right() {
		if e := head.Check(h); e != api.OK {
			t.Errorf("%#v: %d", h, e)
		}
	}
}

// Promise 8.1: nobody, numbers that do not rise, and those that are none may not be who takes part.
func TestMembersThatMayNotBe(t *testing.T) {
	for _, l := range wrongMembers() {
		if head.Members(l) {
			t.Errorf("%v may be", l)
		}
	}
}

// Promise 8.1: all lists of up to 3 numbers round the ends are told apart by the chapter's words.
func TestMembersOneByOne(t *testing.T) {
	numbers := []int{-1, 0, 1, 7, 8, 14, 15, 16}
	in := func(who int) bool { return 0 <= who && who < api.MaxReplicas }
	for _, a := range numbers {
		for _, b := range numbers {
			two := in(a) && in(b) && a < b
			if head.Members([]int{a, b}) != two {
				t.Errorf("%d, %d: %t", a, b, !two)
			}
			for _, c := range numbers {
				three := two && in(c) && b < c
				if head.Members([]int{a, b, c}) != three {
					t.Errorf("%d, %d, %d: %t", a, b, c, !three)
				}
			}
		}
		if head.Members([]int{a}) != in(a) {
			t.Errorf("%d: %t", a, !in(a))
		}
	}
}

// Promise 8.1: ErrHead for a Height 0, each digest that is none, and those that may not take part.
func TestCheckOfWhatMayNotBe(t *testing.T) {
	for _, h := range wrong() {
		if e := head.Check(h); e != api.ErrHead {
			t.Errorf("%#.300v: %d", h, e)
		}
	}
}

// Promise 8.1: headers are the same that have all in common; a list that is nil is that which is empty (R3).
func TestSame(t *testing.T) {
	for _, h := range slices.Concat(right(), wrong()) {
		if !head.Same(h, h) || !head.Same(h, deep(h)) || !head.Same(deep(h), h) {
			t.Errorf("%#.300v is not the same as itself", h)
		}
	}
	a, b := of(), of()
	a.Members, b.Members = nil, []int{}
	if !head.Same(a, b) || !head.Same(b, a) || !head.Same(api.Header{}, api.Header{Members: []int{}}) {
		t.Error("nil and empty lists are not the same")
	}
	if l := upTo(16); !head.Same(of(l[:2:2]...), of(l[:2]...)) {
		t.Error("what stands behind a list's end is looked at")
	}
}

// Promise 8.1: headers that differ in any one thing are not the same.
func TestSameOfUnlikeOnes(t *testing.T) {
	h := of(0, 3, 9)
	all := append(changed(h), h)
	for _, a := range all {
		for _, b := range all {
			if want := plainSame(a, b); head.Same(a, b) != want {
				t.Errorf("%#.300v and %#.300v: %t", a, b, !want)
			}
		}
	}
}

// Promise 8.1, Rule R2: a clone is the same, and its list is its own, whichever of both is changed.
func TestClone(t *testing.T) {
	for _, h := range slices.Concat(right(), wrong()) {
		before, k := deep(h), head.Clone(h)
		if !plainSame(k, before) {
			t.Fatalf("%#.300v is cloned as %#.300v", h, k)
		}
		for i := range k.Members {
			k.Members[i] += 5
		}
		if !plainSame(h, before) {
			t.Fatalf("changed with its clone: %#.300v, was %#.300v", h, before)
		}
		elder := deep(before)
		k = head.Clone(elder)
		for i := range elder.Members {
			elder.Members[i] += 5
		}
		if !plainSame(k, before) {
			t.Fatalf("changed with its elder: %#.300v, was %#.300v", k, before)
		}
	}
}

// Rule R2: what stands behind the end of a list that was handed in is not a clone's to change.
func TestCloneHasNoRoomOfItsElder(t *testing.T) {
	l := upTo(16)
	k := head.Clone(of(l[:2]...))
	_ = append(k.Members, 99)
	if !slices.Equal(l, upTo(16)) {
		t.Error(l)
	}
}

// Rule R2: what is handed in is not changed. Rule R4: asked again, the same is answered.
func TestNothingHandedInIsChanged(t *testing.T) {
	for _, h := range slices.Concat(right(), wrong()) {
		before, twin := deep(h), deep(h)
		var told [2][]any
		for i := range told {
			s, e := head.Encode(h)
			told[i] = []any{head.Members(h.Members), head.Check(h), s, e, head.Hash(h), head.Genesis("a", h.Members), head.Same(h, twin)}
		}
		if !slices.Equal(told[0], told[1]) {
			t.Errorf("%#.300v: %v, then %v", h, told[0], told[1])
		}
		if !plainSame(h, before) || !plainSame(twin, before) {
			t.Fatalf("%#.300v, was %#.300v", h, before)
		}
	}
}

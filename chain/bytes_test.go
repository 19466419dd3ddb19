package chain_test

import (
	"math/rand"
	"slices"
	"strings"
	"testing"

	"muniment/api"
	"muniment/chain"
)

// again is the chain of a chain's snapshot, with its ledger, and holds that they agree.
func again(t *testing.T, c *chain.Chain, l *ledger) (*chain.Chain, *ledger) {
	t.Helper()
	d, e := chain.Decode(c.Encode())
	if e != api.OK {
		t.Fatalf("%q: %d", c.Encode(), e)
	}
	k := l.clone()
	k.blocks = nil
	k.holds(t, d)
	return d, k
}

// noChain holds that bytes are no snapshot: the error, and no chain.
func noChain(t *testing.T, s string, want api.Errno) {
	t.Helper()
	if c, e := chain.Decode(s); c != nil || e != want {
		t.Errorf("%.300q: %v, %d, want the error %d", s, c, e, want)
	}
}

// Promise 10.2: a snapshot's bytes, written out by hand.
func TestEncodeByHand(t *testing.T) {
	c, _ := made(t, "abc", []int{0, 3})
	genesis := plainSum("G" + "\x00\x00\x00\x0a" + "\x00\x00\x00\x03abc" + "\x02\x00\x03")
	want := "\x00\x00\x00\x03abc" + "\x02\x00\x03" + "\x00\x00\x00\x00\x00\x00\x00\x00" + genesis + "\x02\x00\x03" + "\x00\x00\x00\x04" + "\x00\x00\x00\x00"
	if s := c.Encode(); s != want {
		t.Errorf("%q, want %q", s, want)
	}
	x := of(258, 1, put("k", "v"))
	c.Apply(batch(x))
	b, _, e := c.Apply(conf(1, 2, 15))
	if e != api.OK {
		t.Fatal(e)
	}
	hash := plainSum("H" + "\x00\x00\x00\x6c" + "\x00\x00\x00\x00\x00\x00\x00\x02" + b.Header.Prev + plainSum("") + b.Header.StateRoot + "\x03\x01\x02\x0f")
	id := plainSum("T" + "\x00\x00\x00\x1f" + "\x00\x00\x00\x00\x00\x00\x01\x02" + "\x00\x00\x00\x00\x00\x00\x00\x01" + "\x00\x00\x00\x01" + "\x01\x00\x00\x00\x01k\x00\x00\x00\x01v")
	model := "\x00\x00\x00\x02" + "\x00\x00\x00\x02kk" + "\x00\x00\x00\x01v" + "\x00\x00\x00\x09n\x00\x00\x00\x00\x00\x00\x01\x02" + "\x00\x00\x00\x28" + "\x00\x00\x00\x00\x00\x00\x00\x01" + id
	want = "\x00\x00\x00\x03abc" + "\x02\x00\x03" + "\x00\x00\x00\x00\x00\x00\x00\x02" + hash + "\x03\x01\x02\x0f" + plainCount(len(model)) + model
	if s := c.Encode(); s != want {
		t.Errorf("%q, want %q", s, want)
	}
}

// Promise 10.2: snapshots of new chains, of those with blocks and of those that were cut, and what is read again.
func TestDecode(t *testing.T) {
	for _, name := range names() {
		for _, members := range rightMembers() {
			c, l := made(t, name, members)
			again(t, c, l)
			for _, b := range some() {
				both(t, c, l, b)
				again(t, c, l)
			}
			was := c.Encode()
			for height := range l.height + 2 {
				c.Cut(height)
				l.cut(height)
				if s := c.Encode(); s != was {
					t.Fatalf("cut at %d: %q, was %q", height, s, was)
				}
			}
			d, k := again(t, c, l)
			again(t, d, k)
		}
	}
}

// Promises 10.2, 10.3: a chain that was read goes on as the other one: by Apply, by Add, and each with the other's blocks.
func TestDecodeAndGoOn(t *testing.T) {
	for n := range len(some()) + 1 {
		c, l := made(t, "x", []int{0, 1, 2}, some()[:n]...)
		byApply, applied := again(t, c, l)
		byAdd, added := again(t, c, l)
		for _, b := range append(some()[n:], conf(3), batch(of(20, 1, put("z", "1")), of(1, 1, put("a", "1")))) {
			x := both(t, c, l, b)
			both(t, byApply, applied, b)
			added.apply(b)
			if e := byAdd.Add(x); e != api.OK {
				t.Fatal(e)
			}
			applied.holds(t, byApply)
			added.holds(t, byAdd)
		}
		l.holds(t, c)
		other, k := again(t, byAdd, added)
		x := both(t, other, k, batch(of(20, 2, del("z"))))
		if e := c.Add(x); e != api.OK || byApply.Add(x) != api.OK || byAdd.Add(x) != api.OK {
			t.Error(e)
		}
	}
}

// Promise 10.2: ErrCut wherever the bytes end.
func TestDecodeOfWhatIsCut(t *testing.T) {
	for n := range len(some()) + 1 {
		_, l := made(t, sample(0, n), []int{0, 1, 2}, some()[:n]...)
		s := l.bytes()
		for n := range len(s) {
			noChain(t, s[:n], api.ErrCut)
		}
	}
}

// Promise 10.2: ErrMore where bytes are left, ahead of all that the state and the height say.
func TestDecodeOfWhatGoesOn(t *testing.T) {
	for n := range len(some()) + 1 {
		_, l := made(t, "x", []int{0, 1, 2}, some()[:n]...)
		for _, behind := range []string{"\x00", "x", "\xff\xff\xff\xff", l.bytes()} {
			noChain(t, l.bytes()+behind, api.ErrMore)
			noChain(t, l.front()+plainText("none")+behind, api.ErrMore)
			noChain(t, l.front()+plainText("")+behind, api.ErrMore)
			k := l.clone()
			k.height, k.hash = 0, digest(0)
			noChain(t, k.bytes()+behind, api.ErrMore)
		}
	}
}

// Promise 10.2: ErrMany for a name that is too long, whatever stands behind it.
func TestDecodeOfLongNames(t *testing.T) {
	for _, n := range []int{api.MaxKey + 1, api.MaxKey + 2, 256 + api.MaxKey, 1 << 20, 1<<32 - 1} {
		for _, behind := range []string{"", "x", sample(0, 300), begin("", 0).bytes()} {
			noChain(t, plainCount(n)+behind, api.ErrMany)
		}
	}
	for _, n := range []int{0, 1, api.MaxKey - 1, api.MaxKey} {
		if _, e := chain.Decode(begin(sample(0, n), 0).bytes()); e != api.OK {
			t.Errorf("%d bytes: %d", n, e)
		}
		if _, e := chain.Decode(begin(sample(0, n+1), 0).bytes()); (e == api.OK) != (n < api.MaxKey) {
			t.Errorf("%d bytes: %d", n+1, e)
		}
	}
}

// Promise 10.2: ErrForm for members that may not be, those at first and those now.
func TestDecodeOfMembersThatMayNotBe(t *testing.T) {
	l := begin("x", 0, 1)
	l.apply(some()[0])
	for _, s := range []string{"\x00", "\x11" + sample(0, 17), "\xff", "\x01\x10", "\x02\x00\x00", "\x02\x01\x00", "\x02\x00\x10", "\x03\x00\x02\x01", "\x02\xff"} {
		behind := plain8(l.height) + l.hash
		noChain(t, plainText("x")+s+behind+plainMembers(l.members)+plainText(l.m.bytes()), api.ErrForm)
		noChain(t, plainText("x")+plainMembers(l.first)+behind+s+plainText(l.m.bytes()), api.ErrForm)
		noChain(t, plainText("x")+s, api.ErrForm)
		noChain(t, plainText("x")+plainMembers(l.first)+behind+s, api.ErrForm)
	}
}

// Promise 10.2: ErrMany for a state of more than 2^20 bytes; up to there it is asked whether it is one.
func TestDecodeOfLongStates(t *testing.T) {
	_, l := made(t, "x", []int{0, 1}, some()...)
	for _, n := range []int{1<<20 + 1, 1<<20 + 2, 1 << 24, 1<<31 - 1, 1 << 31, 1<<32 - 1} {
		for _, behind := range []string{"", "x", l.m.bytes(), strings.Repeat("\x00", 1<<20+1)} {
			noChain(t, l.front()+plainCount(n)+behind, api.ErrMany)
		}
	}
	noChain(t, l.front()+plainCount(1<<20), api.ErrCut)
	noChain(t, l.front()+plainCount(1<<20)+strings.Repeat("\x00", 1<<20-1), api.ErrCut)
	noChain(t, l.front()+plainText(strings.Repeat("\x00", 1<<20)), api.ErrMore)        // state.Decode's
	noChain(t, l.front()+plainText(strings.Repeat("\x00", 1<<20))+"x", api.ErrMore)    // the snapshot's own
	noChain(t, l.front()+plainText("\xff"+strings.Repeat("\x00", 1<<20)), api.ErrMany) // a byte too many
}

// Promise 10.2: state.Decode's errors, one by one.
func TestDecodeOfStatesThatAreNone(t *testing.T) {
	_, l := made(t, "x", []int{0, 1}, some()[0])
	for _, height := range []uint64{0, 1, 1 << 40} {
		l.height = height
		right := l.m.bytes()
		for n := range len(right) {
			noChain(t, l.front()+plainText(right[:n]), api.ErrCut)
		}
		noChain(t, l.front()+plainText(right+"x"), api.ErrMore)
		noChain(t, l.front()+plainText(plainCount(api.MaxKeys+1)), api.ErrMany)
		for _, s := range []string{
			plainCount(1) + plainText("") + plainText(""), plainCount(1) + plainText("k") + plainText(""), plainCount(1) + plainText("xa") + plainText(""),
			plainCount(2) + plainText("kb") + plainText("") + plainText("ka") + plainText(""), plainCount(2) + plainText("ka") + plainText("") + plainText("ka") + plainText(""),
			plainCount(1) + plainText("n"+plain8(1)) + plainText(""), plainCount(1) + plainText("n"+plain8(1)) + plainText(plain8(0)+digest(0)),
		} {
			noChain(t, l.front()+plainText(s), api.ErrForm)
		}
	}
}

// Promise 10.2: at height 0 ErrForm with another digest than Genesis, with texts, and where others take part; above it all of it may be.
func TestDecodeAtNoHeight(t *testing.T) {
	change := func(change func(l *ledger)) {
		t.Helper()
		for _, height := range []uint64{0, 1, 2, 1 << 32, 1<<64 - 1} {
			l := begin("x", 0, 1)
			l.height = height
			change(l)
			if height == 0 {
				noChain(t, l.bytes(), api.ErrForm)
				continue
			}
			c, e := chain.Decode(l.bytes())
			if e != api.OK {
				t.Fatal(height, e)
			}
			l.holds(t, c)
		}
	}
	for _, s := range []string{digest(0), strings.Repeat("\x00", 32), plainGenesis("y", []int{0, 1}), plainGenesis("x", []int{0}), plainGenesis("x", []int{0, 2})} {
		change(func(l *ledger) { l.hash = s })
	}
	change(func(l *ledger) { l.hash = l.hash[:31] + string([]byte{l.hash[31] ^ 1}) })
	change(func(l *ledger) { l.m = model{"ka": "1"} })
	change(func(l *ledger) { l.m = model{"ka": ""} })
	change(func(l *ledger) { l.m = model{"n" + plain8(0): plain8(1) + digest(0)} })
	for _, members := range [][]int{{0}, {1}, {0, 2}, {0, 1, 2}, upTo(16)} {
		change(func(l *ledger) { l.members = members })
		change(func(l *ledger) { l.first = members })
		change(func(l *ledger) { l.members, l.hash = members, plainGenesis(l.name, members) })
		change(func(l *ledger) { l.first, l.hash = members, plainGenesis(l.name, members) })
	}
	change(func(l *ledger) { l.name = "y" })
	change(func(l *ledger) { l.hash, l.m, l.members = digest(0), model{"ka": "1"}, []int{5} })
	if _, e := chain.Decode(begin("x", 0, 1).bytes()); e != api.OK {
		t.Error(e)
	}
}

// Promise 10.2: the error named first is told: the reader's, ErrMore, the state's, then that of the height.
func TestDecodeTellsTheFirst(t *testing.T) {
	l := begin("x", 0, 1)
	l.hash, l.members = digest(0), []int{7}
	noChain(t, l.front()+plainText("\x00\x00"), api.ErrCut)
	noChain(t, l.front()+plainText("\x00\x00\x00\x00\x00"), api.ErrMore)
	noChain(t, l.front()+plainText("\x00\x00\x00\x00"), api.ErrForm)
	noChain(t, l.front()+plainText("\x00\x00")+"x", api.ErrMore)
	noChain(t, l.front()+plainCount(1<<20+1)+"x", api.ErrMany)
	noChain(t, plainCount(api.MaxKey+1)+"\x00", api.ErrMany)
	noChain(t, plainText("x")+"\x00"+strings.Repeat("\xff", 200), api.ErrForm)
	noChain(t, "", api.ErrCut)
}

// Rules R1, R4: any bytes are read or refused, twice the same; what was read is written as it was.
func TestDecodeOfAnything(t *testing.T) {
	_, l := made(t, "x", []int{0, 1, 2}, some()...)
	draw := rand.New(rand.NewSource(1))
	for range 20000 {
		b := []byte(l.bytes())
		for range 1 + draw.Intn(3) {
			b[draw.Intn(len(b))] = byte(draw.Intn(256))
		}
		s := string(b[:len(b)-draw.Intn(2)*draw.Intn(len(b))])
		c, e := chain.Decode(s)
		d, f := chain.Decode(s)
		if e != f || (e == api.OK) != (c != nil) || c.Encode() != d.Encode() || e == api.OK && c.Encode() != s {
			t.Fatalf("%q: %d, %d", s, e, f)
		}
	}
}

// drawn is a batch of what a ledger can do and can't.
func drawn(r *rand.Rand, l *ledger) api.Batch {
	if r.Intn(5) == 0 {
		members := slices.DeleteFunc(upTo(6), func(int) bool { return r.Intn(2) == 0 })
		return conf(append(members, 7)...)
	}
	var b api.Batch
	for range r.Intn(5) {
		client := uint64(r.Intn(3))
		last, _ := nonceOf(l.m, client)
		x := of(client, last+1+uint64(len(b.Txs)*r.Intn(2)))
		for range 1 + r.Intn(3) {
			key := string([]byte{'a' + byte(r.Intn(5))})
			x.Ops = append(x.Ops, []api.Op{put(key, key), del(key), check(key, key), none(key)}[r.Intn(4)])
		}
		b.Txs = append(b.Txs, x)
	}
	return b
}

// nonceOf is a client's last number in a model.
func nonceOf(m model, client uint64) (uint64, bool) {
	has, is := m["n"+plain8(client)]
	var n uint64
	for i := range min(8, len(has)) {
		n = n<<8 | uint64(has[i])
	}
	return n, is
}

// Promises 10.1 to 10.3: chains that make, add, cut and are read again stay what the document says, whatever comes.
func TestManyTurns(t *testing.T) {
	for seed := range int64(30) {
		r := rand.New(rand.NewSource(seed))
		a, l := made(t, "turns", []int{0, 1, 2})
		b, k := made(t, "turns", []int{0, 1, 2})
		for range 40 {
			x := drawn(r, l)
			made := both(t, a, l, x)
			k.apply(x)
			if e := b.Add(made); e != api.OK {
				t.Fatal(e)
			}
			switch r.Intn(6) {
			case 0:
				height := l.height - min(l.height, uint64(r.Intn(9)))
				if n, want := a.Cut(height), l.cut(height); n != want {
					t.Fatal(n, want)
				}
			case 1:
				b, k = again(t, b, k)
			case 2:
				a, l, b, k = b, k, a, l
			}
			l.holds(t, a)
			k.holds(t, b)
		}
	}
}

package block_test

import (
	"math"
	"math/rand"
	"slices"
	"strconv"
	"testing"

	"muniment/api"
	"muniment/block"
	"muniment/smt"
	"muniment/state"
)

// full is a world with so many texts, of one client.
func full(texts int) world {
	var l []api.Tx
	for n := 1; n < texts; {
		var ops []api.Op
		for len(ops) < api.MaxOps && n < texts {
			ops = append(ops, put("full"+strconv.Itoa(n), ""))
			n++
		}
		l = append(l, of(99, uint64(len(l)+1), ops...))
	}
	return after(l...)
}

// execs holds that Exec does what the model does, and tells it.
func execs(t *testing.T, w world, b api.Batch) world {
	t.Helper()
	behind, want, errors := w.m.exec(b.Txs)
	done, told := block.Exec(w.s, w.t, b)
	if !sameTxs(done, want) || !slices.Equal(told, errors) {
		t.Errorf("%#v: %#v, %v, want %#v, %v", b, done, told, want, errors)
	}
	w.m = behind
	if !w.stands() {
		t.Errorf("%#v: state or tree are not those of the model", b)
	}
	return w
}

// Promise 9.2: Exec of transactions that can all be done, one behind the other.
func TestExec(t *testing.T) {
	w := execs(t, fresh(), batch())
	w = execs(t, w, batch(many(16)...))
	w = execs(t, w, batch(of(9, 1, del("key0"), del("nobody's"), put("x", "1")), of(9, 2, check("x", "1"), del("x"), none("key0"))))
	w = execs(t, w, batch(of(9, 3, del("key1"), del("key2"), del("key3"), del("key4"))))
	if len(w.m) != 4 {
		t.Errorf("%d texts", len(w.m))
	}
}

// Promise 9.2: transactions that can't be done change nothing, and those behind them go on; each is told.
func TestExecOfWhatCannotBeDone(t *testing.T) {
	l := []api.Tx{
		of(1, 1, put("a", "1")),                  // OK
		of(1, 1, put("a", "2")),                  // ErrNonce: it was the client's last one
		of(1, 3, put("a", "2")),                  // ErrNonce
		of(2, 1, put("b", "2"), check("a", "2")), // ErrCheck
		of(2, 1, del("a"), none("b")),            // OK
		of(2, 2, none("a"), put("c", "1")),       // OK
		of(2, 3, put("d", "1"), none("c")),       // ErrCheck
		of(2, 3, check("c", "1")),                // OK
	}
	w := execs(t, fresh(), batch(l...))
	if _, told := block.Exec(state.New(), smt.New(), batch(l...)); !slices.Equal(told, []api.Errno{0, api.ErrNonce, api.ErrNonce, api.ErrCheck, 0, 0, api.ErrCheck, 0}) {
		t.Error(told)
	}
	w = execs(t, w, batch(l...)) // all of them once more: none can be done
	if n := len(w.m); n != 3 {
		t.Errorf("%d texts", n)
	}
	w = execs(t, full(api.MaxKeys-1), batch(of(99, 1, put("x", "")), of(1, 1, put("x", "")), of(2, 1, none("x")), of(3, 1, none("x"))))
	execs(t, w, batch(of(2, 2, put("x", "")), of(2, 2, del("full1"), put("x", "")), of(3, 1, none("x"))))
}

// Promise 9.2: Exec does not ask whether the batch may be: a transaction that may not be is told so, and too many are done.
func TestExecOfBatchesThatMayNotBe(t *testing.T) {
	w := fresh()
	for _, x := range wrongTxs() {
		done, told := block.Exec(w.s, w.t, batch(x, of(5, 1)))
		if len(done) != 0 || !slices.Equal(told, []api.Errno{api.ErrTx, api.ErrTx}) || !w.stands() {
			t.Errorf("%#v: %#v, %v", x, done, told)
		}
	}
	execs(t, w, batch(many(40)...))
	if done, told := block.Exec(w.s, w.t, conf(0, 1)); len(done) != 0 || len(told) != 0 {
		t.Error(done, told)
	}
}

// Promise 9.2: a nil state or tree: nothing is done, and nothing is told.
func TestExecOfNothing(t *testing.T) {
	w := after(many(3)...)
	for _, b := range []api.Batch{batch(), batch(of(7, 1, put("x", "1"))), conf(0)} {
		for _, c := range []world{{w.s, nil, nil}, {nil, w.t, nil}, {nil, nil, nil}} {
			if done, told := block.Exec(c.s, c.t, b); len(done) != 0 || len(told) != 0 {
				t.Errorf("%#v: %#v, %v", b, done, told)
			}
			if !w.stands() {
				t.Fatalf("%#v: something is changed", b)
			}
		}
	}
}

// makes holds that Make makes the block of the model, and what it tells; the world behind it.
func makes(t *testing.T, w world, prev string, height uint64, members []int, b api.Batch) (api.Block, world) {
	t.Helper()
	want, behind, errors := w.m.block(prev, height, members, b)
	x, told, e := block.Make(prev, height, members, w.s, w.t, b)
	if !sameBlock(x, want) || !slices.Equal(told, errors) || e != api.OK {
		t.Errorf("%#v: %#v, %v, %d, want %#v, %v", b, x, told, e, want, errors)
	}
	w.m = behind
	if !w.stands() {
		t.Errorf("%#v: state or tree are not those of the model", b)
	}
	return x, w
}

// The chapter's example: a batch without transactions makes a block with the tree's root of an empty list.
func TestExample(t *testing.T) {
	for _, b := range []api.Batch{{}, {Txs: []api.Tx{}, Members: []int{}}} {
		x, told, e := block.Make(digest(1), 1, []int{0}, state.New(), smt.New(), b)
		if e != api.OK || len(told) != 0 || len(x.Txs) != 0 || x.Header.TxRoot != plainSum("") {
			t.Errorf("%#v, %v, %d", x, told, e)
		}
		if x.Header.StateRoot != string(make([]byte, 32)) {
			t.Errorf("%x", x.Header.StateRoot)
		}
	}
}

// Promise 9.2: blocks of batches behind one another, with transactions that can be done and such that can't, and with Conf.
func TestMake(t *testing.T) {
	w := fresh()
	for height, b := range []api.Batch{
		batch(), batch(many(16)...), batch(of(0, 7, del("key1")), of(0, 7, del("key1")), of(1, 6, check("key1", "")), of(1, 6, none("key1"))),
		conf(0, 1, 2), batch(of(5, 2, put("a", ""))), conf(0), batch(of(5, 1, put("a", ""))), conf(upTo(16)...), batch(),
	} {
		_, w = makes(t, w, digest(height), uint64(height+1), []int{0, 3}, b)
	}
	makes(t, w, digest(0), math.MaxUint64, upTo(16), batch(of(5, 2, del("a"))))
}

// Promise 9.2: Members are those of the batch with Conf, else those ahead.
func TestMakeTellsWhoTakesPart(t *testing.T) {
	for _, ahead := range [][]int{{0}, {3, 15}, upTo(16)} {
		for _, next := range [][]int{{0}, {1}, {3, 14}, upTo(16)} {
			if b, _, e := block.Make(digest(1), 1, ahead, state.New(), smt.New(), conf(next...)); e != api.OK || !slices.Equal(b.Header.Members, next) {
				t.Error(ahead, next, b.Header.Members, e)
			}
		}
		for _, l := range [][]api.Tx{nil, many(1), {of(1, 5, put("a", "1"))}} {
			if b, _, e := block.Make(digest(1), 1, ahead, state.New(), smt.New(), batch(l...)); e != api.OK || !slices.Equal(b.Header.Members, ahead) {
				t.Error(ahead, b.Header.Members, e)
			}
		}
	}
}

// place is where a block is to stand.
type place struct {
	prev    string
	height  uint64
	members []int
	s       *state.State
	t       *smt.Tree
}

// wrongPlaces is places at which no block can stand, each for one reason alone, and for several.
func wrongPlaces(w world) []place {
	out := []place{
		{digest(1), 1, []int{0}, nil, w.t}, {digest(1), 1, []int{0}, w.s, nil}, {digest(1), 1, []int{0}, nil, nil},
		{digest(1), 0, []int{0}, w.s, w.t}, {"", 1, []int{0}, w.s, w.t}, {digest(1)[1:], 1, []int{0}, w.s, w.t}, {digest(1) + "x", 1, []int{0}, w.s, w.t},
		{sample(0, 64), 1, []int{0}, w.s, w.t}, {digest(1), 1, nil, w.s, w.t}, {digest(1), 1, []int{}, w.s, w.t}, {"", 0, nil, nil, nil},
	}
	for _, l := range wrongMembers() {
		out = append(out, place{digest(1), 1, l, w.s, w.t})
	}
	return out
}

// unmade holds that Make tells an error, and nothing beside it.
func unmade(t *testing.T, p place, b api.Batch, want api.Errno) {
	t.Helper()
	if x, told, e := block.Make(p.prev, p.height, p.members, p.s, p.t, b); e != want || !noBlock(x) || len(told) != 0 {
		t.Errorf("%#v, %#v: %#v, %v, %d, want the error %d", p, b, x, told, e, want)
	}
}

// Promise 9.2: ErrArg at a nil state or tree, height 0, a prev that is no digest and members that may not be, with Conf, too; nothing is changed.
func TestMakeOfWrongPlaces(t *testing.T) {
	w := after(many(3)...)
	for _, p := range wrongPlaces(w) {
		for _, b := range []api.Batch{batch(), batch(of(7, 1, put("x", "1"))), conf(0, 1)} {
			unmade(t, p, b, api.ErrArg)
		}
		if !w.stands() {
			t.Fatalf("%#v: something is changed", p)
		}
	}
}

// Promise 9.2: CheckBatch's error ahead of ErrArg; nothing is changed.
func TestMakeOfBatchesThatMayNotBe(t *testing.T) {
	w := after(many(3)...)
	for want, l := range unlikely() {
		for _, b := range l {
			for _, p := range append(wrongPlaces(w), place{digest(1), 1, []int{0}, w.s, w.t}) {
				unmade(t, p, b, want)
			}
			if !w.stands() {
				t.Fatalf("%#v: something is changed", b)
			}
		}
	}
}

// drawn is a batch of transactions that nearly can be done.
func drawn(d *rand.Rand, m model) api.Batch {
	if d.Intn(10) == 0 {
		return conf(upTo(1 + d.Intn(16))...)
	}
	var l []api.Tx
	for range d.Intn(api.MaxTxs + 1) {
		client, last := uint64(d.Intn(3)), uint64(0)
		if has := m["n"+plain8(client)]; has != "" {
			last = uint64(has[7]) | uint64(has[6])<<8
		}
		var ops []api.Op
		for range 1 + d.Intn(3) {
			key := string(rune('a' + d.Intn(4)))
			value := string(rune('0' + d.Intn(2)))
			ops = append(ops, []api.Op{put(key, value), put(key, value), put(key, value), del(key), check(key, value), none(key)}[d.Intn(6)])
		}
		x := of(client, last+1+uint64(d.Intn(8)/7), ops...)
		l = append(l, x)
		m, _ = m.apply(x)
	}
	return batch(l...)
}

// Promises 9.2 and 9.4: many drawn batches against the words, and each block is right where it was made; told twice it is the same (R4).
func TestMakeAgainstWords(t *testing.T) {
	d := rand.New(rand.NewSource(91))
	w, kinds := fresh(), map[api.Errno]int{}
	for height := range uint64(400) {
		b, other, again := drawn(d, w.m), w.clone(), w.clone()
		members := upTo(1 + d.Intn(16))
		var x api.Block
		x, w = makes(t, w, digest(d.Intn(10)), height+1, members, b)
		if e := block.Check(x.Header.Prev, height+1, members, other.s, other.t, x); e != api.OK || !w.m.is(other.s, other.t) {
			t.Fatalf("%#v: %d", x, e)
		}
		y, told, e := block.Make(x.Header.Prev, height+1, members, again.s, again.t, b)
		if e != api.OK || !sameBlock(x, y) || !w.m.is(again.s, again.t) {
			t.Fatalf("%#v, then %#v, %d", x, y, e)
		}
		for _, e := range told {
			kinds[e]++
		}
	}
	if kinds[api.OK] < 500 || kinds[api.ErrCheck] < 100 || kinds[api.ErrNonce] < 100 {
		t.Error(kinds)
	}
}

// Rule R2: what Exec and Make answer is the caller's own, and what was handed in may be changed.
func TestMakeKeepsNothing(t *testing.T) {
	w, members := fresh(), []int{0, 3}
	l := []api.Tx{of(1, 1, put("a", "1"), put("b", "2")), of(1, 1, del("a")), of(2, 1, check("a", "1"))}
	before := deepTxs(l)
	want, behind, _ := w.m.block(digest(1), 1, members, batch(before...))
	x, told, _ := block.Make(digest(1), 1, members, w.s, w.t, batch(l...))
	if !sameTxs(l, before) || !slices.Equal(members, []int{0, 3}) {
		t.Fatalf("what was handed in is changed: %#v, %v", l, members)
	}
	done, _ := block.Exec(state.New(), smt.New(), batch(l...))
	for i := range l {
		clear(l[i].Ops)
	}
	clear(l)
	members[0] = 1
	if !sameBlock(x, want) || !sameTxs(done, want.Txs) || !behind.is(w.s, w.t) {
		t.Errorf("%#v, want %#v", x, want)
	}
	clear(x.Txs[0].Ops)
	clear(x.Txs)
	clear(told)
	x.Header.Members[1] = 9
	if !behind.is(w.s, w.t) || !sameTxs(done, want.Txs) {
		t.Errorf("state or tree are changed")
	}
	next := []int{0, 1}
	y, _, _ := block.Make(digest(1), 1, []int{0}, w.s, w.t, conf(next...))
	next[0] = 7
	if !slices.Equal(y.Header.Members, []int{0, 1}) {
		t.Error(y.Header.Members)
	}
	y.Header.Members[1] = 9
	if !slices.Equal(next, []int{7, 1}) {
		t.Error(next)
	}
}

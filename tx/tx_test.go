package tx_test

import (
	"math"
	"slices"
	"strings"
	"testing"

	"muniment/api"
	"muniment/tx"
)

// sample is so many bytes, letters and others.
func sample(n int) string { return strings.Repeat("\x00\x81\xffmuniment", n/11+1)[:n] }

// of is a transaction of these operations.
func of(ops ...api.Op) api.Tx { return api.Tx{Client: 7, Nonce: 3, Ops: ops} }

// many is so many operations that may be, no two alike.
func many(n int) []api.Op {
	var out []api.Op
	for i := range n {
		out = append(out, api.Op{Kind: api.OpPut, Key: sample(i + 1), Value: sample(2 * i)})
	}
	return out
}

// each is an operation of each kind.
func each() api.Tx {
	return of(
		api.Op{Kind: api.OpPut, Key: "a", Value: "1"},
		api.Op{Kind: api.OpDel, Key: "bc"},
		api.Op{Kind: api.OpCheck, Key: "a", Value: "2"},
		api.Op{Kind: api.OpNone, Key: "def"},
	)
}

// right is transactions that may be, with all ends of what there may be.
func right() []api.Tx {
	out := []api.Tx{
		each(),
		of(many(api.MaxOps)...),
		of(many(api.MaxOps - 1)...),
		{Client: 0, Nonce: 1, Ops: many(1)},
		{Client: math.MaxUint64, Nonce: math.MaxUint64, Ops: many(2)},
		{Client: 0x0102030405060708, Nonce: 0x1112131415161718, Ops: many(3)},
		of(many(1)[0], many(1)[0]),
	}
	for _, key := range []string{"a", "\x00", "\xff", sample(2), sample(api.MaxKey - 1), sample(api.MaxKey)} {
		for _, kind := range []int{api.OpDel, api.OpNone} {
			out = append(out, of(api.Op{Kind: kind, Key: key}))
		}
		for _, value := range []string{"", "\x00", "v", sample(api.MaxKey + 1), sample(api.MaxValue - 1), sample(api.MaxValue)} {
			for _, kind := range []int{api.OpPut, api.OpCheck} {
				out = append(out, of(api.Op{Kind: kind, Key: key, Value: value}))
			}
		}
	}
	return out
}

// wrongOps is operations that may not be.
func wrongOps() []api.Op {
	var out []api.Op
	for _, kind := range []int{0, 5, 6, 128, 255, 256, 257, 260, -1, -255, math.MinInt, math.MaxInt} {
		out = append(out, api.Op{Kind: kind, Key: "a"}, api.Op{Kind: kind, Key: "a", Value: "v"})
	}
	for _, kind := range []int{api.OpPut, api.OpDel, api.OpCheck, api.OpNone} {
		for _, key := range []string{"", sample(api.MaxKey + 1), sample(api.MaxKey + 2), sample(256 + 1), sample(70000)} {
			out = append(out, api.Op{Kind: kind, Key: key})
		}
		for _, n := range []int{api.MaxValue + 1, api.MaxValue + 2, 256, 70000} {
			out = append(out, api.Op{Kind: kind, Key: "a", Value: sample(n)})
		}
	}
	for _, kind := range []int{api.OpDel, api.OpNone} {
		for _, value := range []string{"\x00", "v", sample(api.MaxValue)} {
			out = append(out, api.Op{Kind: kind, Key: "a", Value: value})
		}
	}
	return out
}

// wrong is transactions that may not be, nearly all for one reason alone; those with a wrong operation have it first, between others and last.
func wrong() []api.Tx {
	out := []api.Tx{
		{},
		of(),
		{Client: 7, Nonce: 3, Ops: []api.Op{}},
		{Client: 7, Nonce: 0, Ops: many(1)},
		{Client: 0, Nonce: 0, Ops: many(api.MaxOps)},
		of(many(api.MaxOps + 1)...),
		of(many(api.MaxOps + 2)...),
		of(slices.Repeat(many(1), 256+1)...),
	}
	for _, o := range wrongOps() {
		out = append(out, of(o))
		for _, at := range []int{0, 3, api.MaxOps - 1} {
			ops := many(api.MaxOps)
			ops[at] = o
			out = append(out, of(ops...))
		}
	}
	return out
}

// deep is a transaction of its own, made by hand.
func deep(x api.Tx) api.Tx {
	out := api.Tx{Client: x.Client, Nonce: x.Nonce, Ops: make([]api.Op, len(x.Ops))}
	for i, o := range x.Ops {
		out.Ops[i] = o
	}
	return out
}

// plainSame tells whether two transactions are the same, thing by thing.
func plainSame(a, b api.Tx) bool {
	if a.Client != b.Client || a.Nonce != b.Nonce || len(a.Ops) != len(b.Ops) {
		return false
	}
	for i, o := range a.Ops {
		if p := b.Ops[i]; o.Kind != p.Kind || o.Key != p.Key || o.Value != p.Value {
			return false
		}
	}
	return true
}

// changed is transactions that differ from a given one in one thing each.
func changed(x api.Tx) []api.Tx {
	var out []api.Tx
	add := func(change func(y *api.Tx)) {
		y := deep(x)
		change(&y)
		out = append(out, y)
	}
	for bit := range 64 {
		add(func(y *api.Tx) { y.Client ^= 1 << bit })
		add(func(y *api.Tx) { y.Nonce ^= 1 << bit })
	}
	for i := range x.Ops {
		add(func(y *api.Tx) { y.Ops[i].Kind += 4 })
		add(func(y *api.Tx) { y.Ops[i].Kind-- })
		add(func(y *api.Tx) { y.Ops[i].Key += "x" })
		add(func(y *api.Tx) { y.Ops[i].Key = "x" + y.Ops[i].Key })
		add(func(y *api.Tx) { y.Ops[i].Key = y.Ops[i].Key[1:] })
		add(func(y *api.Tx) { y.Ops[i].Value += "\x00" })
		add(func(y *api.Tx) { y.Ops[i].Value = "w" + y.Ops[i].Value })
		add(func(y *api.Tx) { y.Ops[i].Key, y.Ops[i].Value = y.Ops[i].Value, y.Ops[i].Key })
		add(func(y *api.Tx) { y.Ops = slices.Delete(y.Ops, i, i+1) })
		add(func(y *api.Tx) { y.Ops = slices.Insert(y.Ops, i, api.Op{}) })
	}
	add(func(y *api.Tx) { y.Ops = append(y.Ops, api.Op{Kind: api.OpDel, Key: "b"}) })
	add(func(y *api.Tx) { slices.Reverse(y.Ops) })
	add(func(y *api.Tx) { y.Ops = nil })
	return out
}

// Promise 4.1, the chapter's example: a transaction without operations may not be.
func TestExample(t *testing.T) {
	if e := tx.Check(api.Tx{Client: 3, Nonce: 1}); e != api.ErrTx {
		t.Error(e)
	}
	if s, e := tx.Encode(api.Tx{Client: 3, Nonce: 1}); s != "" || e != api.ErrTx {
		t.Errorf("%q, %d", s, e)
	}
}

// Promise 4.1: what may be is so up to its ends.
func TestCheck(t *testing.T) {
	for _, x := range right() {
		if e := tx.Check(x); e != api.OK {
			t.Errorf("%#v: %d", x, e)
		}
	}
}

// Promise 4.1: ErrTx for all that may not be, wherever in a list it stands.
func TestCheckOfWhatMayNotBe(t *testing.T) {
	for _, x := range wrong() {
		if e := tx.Check(x); e != api.ErrTx {
			t.Errorf("%#.200v: %d", x, e)
		}
	}
}

// Promise 4.1: transactions are the same that have all in common; one without operations is that whose list is nil (R3).
func TestSame(t *testing.T) {
	for _, x := range slices.Concat(right(), wrong()) {
		if !tx.Same(x, x) || !tx.Same(x, deep(x)) || !tx.Same(deep(x), x) {
			t.Errorf("%#.200v is not the same as itself", x)
		}
	}
	if !tx.Same(of(), api.Tx{Client: 7, Nonce: 3, Ops: []api.Op{}}) || !tx.Same(api.Tx{}, api.Tx{Ops: []api.Op{}}) {
		t.Error("nil and empty lists are not the same")
	}
	if x := of(many(api.MaxOps)...); !tx.Same(of(x.Ops[:2:2]...), of(x.Ops[:2]...)) {
		t.Error("what stands behind a list's end is looked at")
	}
}

// Promise 4.1: transactions that differ in any one thing are not the same.
func TestSameOfUnlikeOnes(t *testing.T) {
	x := each()
	all := append(changed(x), x)
	for i, a := range all {
		for j, b := range all {
			if want := plainSame(a, b); tx.Same(a, b) != want || i == j && !want {
				t.Errorf("%#v and %#v: %t", a, b, !want)
			}
		}
		if i < len(all)-1 && tx.Same(x, a) {
			t.Errorf("%#v and %#v are the same", x, a)
		}
	}
}

// Promise 4.1: a clone is the same, of those that may not be, too.
func TestClone(t *testing.T) {
	for _, x := range slices.Concat(right(), wrong()) {
		if y := tx.Clone(x); !plainSame(x, y) {
			t.Errorf("%#.200v: %#.200v", x, y)
		}
	}
}

// Promise 4.1: a clone is its own: nothing done to one is seen in the other (R2).
func TestCloneIsItsOwn(t *testing.T) {
	for _, x := range right() {
		was, y := deep(x), tx.Clone(x)
		for i := range y.Ops {
			y.Ops[i] = api.Op{Kind: 99, Key: "changed", Value: "changed"}
		}
		if !plainSame(x, was) {
			t.Errorf("a change of the clone of %#v is seen in it: %#v", was, x)
		}
		y = tx.Clone(x)
		for i := range x.Ops {
			x.Ops[i] = api.Op{Kind: 99, Key: "changed", Value: "changed"}
		}
		if !plainSame(y, was) {
			t.Errorf("a change of %#v is seen in its clone: %#v", was, y)
		}
	}
}

// Promise 4.1: what is put behind a clone's end does not stand in the other's memory.
func TestCloneHasItsOwnEnd(t *testing.T) {
	for n := range api.MaxOps {
		ops := many(api.MaxOps)
		y := tx.Clone(of(ops[:n]...))
		_ = append(y.Ops, api.Op{Kind: 99, Key: "changed"})
		if !slices.Equal(ops, many(api.MaxOps)) {
			t.Errorf("behind %d operations: %#v", n, ops[n])
		}
	}
}

// R2 and R4: no call changes what it is handed, and each answers the same again.
func TestNothingIsChanged(t *testing.T) {
	for _, x := range slices.Concat(right(), wrong()) {
		y := deep(x)
		e, id := tx.Check(x), tx.ID(x)
		s, f := tx.Encode(x)
		tx.Same(x, x)
		tx.Clone(x)
		if !plainSame(x, y) {
			t.Errorf("%#.200v was changed: %#.200v", y, x)
		}
		again, g := tx.Encode(x)
		if tx.Check(x) != e || tx.ID(x) != id || again != s || g != f {
			t.Errorf("%#.200v: another answer", x)
		}
	}
}

package wire_test

import (
	"math"
	"math/rand"
	"strings"
	"testing"

	"muniment/api"
	"muniment/wire"
)

// written holds what a writer has when something was put behind two other bytes.
func written(t *testing.T, what string, put func(*wire.Writer), want string) {
	t.Helper()
	w := wire.NewWriter()
	w.Bytes("ab")
	put(w)
	if w.All() != "ab"+want || w.Len() != 2+len(want) {
		t.Errorf("%s: %x, %d, want %x", what, w.All(), w.Len(), "ab"+want)
	}
}

// Promise 3.3: bytes are put behind one another.
func TestWriterBytes(t *testing.T) {
	w := wire.NewWriter()
	want := ""
	if w.All() != "" || w.Len() != 0 {
		t.Errorf("new: %q, %d", w.All(), w.Len())
	}
	for n := range 200 {
		w.Bytes(sample(n))
		want += sample(n)
		if w.All() != want || w.Len() != len(want) {
			t.Fatalf("behind %d bytes: %d, %d", n, len(w.All()), w.Len())
		}
	}
}

// Promise 3.3: numbers are put as Number has them, of any size.
func TestWriterNumber(t *testing.T) {
	for _, n := range numbers() {
		for bytes := range 9 {
			written(t, "Number", func(w *wire.Writer) { w.Number(n, bytes) }, plainNumber(n, bytes))
		}
		for _, bytes := range []int{-1, math.MinInt} {
			written(t, "below 0", func(w *wire.Writer) { w.Number(n, bytes) }, "")
		}
		for _, bytes := range []int{9, 100, math.MaxInt} {
			written(t, "above 8", func(w *wire.Writer) { w.Number(n, bytes) }, plainNumber(n, 8))
		}
	}
}

// Promise 3.3: a count is 4 bytes: 0 below 0, the lowest ones of what is greater.
func TestWriterCount(t *testing.T) {
	for _, n := range []int{0, 1, 258, 1<<31 - 1, 1 << 31, 1<<32 - 1, 1 << 32, 1<<32 + 5, 0x0102030405060708, math.MaxInt} {
		written(t, "Count", func(w *wire.Writer) { w.Count(n) }, plainNumber(uint64(n), 4))
	}
	for _, n := range []int{-1, -2, -256, -1 << 32, math.MinInt} {
		written(t, "below 0", func(w *wire.Writer) { w.Count(n) }, "\x00\x00\x00\x00")
	}
}

// Promise 3.3: a text is its count and its bytes.
func TestWriterText(t *testing.T) {
	for _, n := range []int{0, 1, 2, 255, 256, 70000} {
		written(t, "Text", func(w *wire.Writer) { w.Text(sample(n)) }, plainNumber(uint64(n), 4)+sample(n))
	}
}

// Promise 3.3: a digest is 32 bytes: cut, or filled up with noughts.
func TestWriterHash(t *testing.T) {
	long := strings.Repeat("x", 100)
	for n := range len(long) {
		want := long[:min(n, 32)] + strings.Repeat("\x00", max(32-n, 0))
		written(t, "Hash", func(w *wire.Writer) { w.Hash(long[:n]) }, want)
	}
	written(t, "unlike ones", func(w *wire.Writer) {
		w.Hash(sample(32))
		w.Hash("h")
	}, sample(32)+"h"+strings.Repeat("\x00", 31))
}

// Promise 3.3: yes is 1, no is 0.
func TestWriterBool(t *testing.T) {
	written(t, "yes", func(w *wire.Writer) { w.Bool(true) }, "\x01")
	written(t, "no", func(w *wire.Writer) { w.Bool(false) }, "\x00")
}

// Promise 3.3: a nil writer has nothing, whatever is put; one that NewWriter did not make has nothing yet.
func TestWriterOfNothing(t *testing.T) {
	var none *wire.Writer
	none.Bytes("a")
	none.Number(258, 2)
	none.Count(1)
	none.Text("b")
	none.Hash("h")
	none.Bool(true)
	if none.Len() != 0 || none.All() != "" {
		t.Errorf("nil: %d, %q", none.Len(), none.All())
	}
	empty := &wire.Writer{}
	if empty.Len() != 0 || empty.All() != "" {
		t.Errorf("%d, %q", empty.Len(), empty.All())
	}
	empty.Text("b")
	if empty.All() != "\x00\x00\x00\x01b" {
		t.Errorf("%q", empty.All())
	}
}

// Rule R2: what All answered stays as it is when more is put, and it is asked again.
func TestWriterAllStays(t *testing.T) {
	w := wire.NewWriter()
	w.Bytes("abc")
	first := w.All()
	w.Bytes(sample(100))
	if first != "abc" || w.All() != "abc"+sample(100) || w.All() != w.All() {
		t.Errorf("%q, %q", first, w.All())
	}
}

// item is something that is put: by a writer, and held against what a reader takes.
type item struct {
	put  func(*wire.Writer)
	same func(*wire.Reader) bool
}

// drawn is something that may be put, by chance.
func drawn(d *rand.Rand) item {
	n, size := d.Uint64(), d.Intn(9)
	s := sample(d.Intn(300))
	count, yes := d.Intn(1<<31), d.Intn(2) == 1
	low := n
	if size < 8 {
		low = n & (1<<(8*size) - 1)
	}
	all := []item{
		{func(w *wire.Writer) { w.Bytes(s) }, func(r *wire.Reader) bool { return r.Bytes(len(s)) == s }},
		{func(w *wire.Writer) { w.Number(n, size) }, func(r *wire.Reader) bool { return r.Number(size) == low }},
		{func(w *wire.Writer) { w.Count(count) }, func(r *wire.Reader) bool { return r.Count(count) == count }},
		{func(w *wire.Writer) { w.Text(s) }, func(r *wire.Reader) bool { return r.Text(len(s)) == s }},
		{func(w *wire.Writer) { w.Hash(s) }, func(r *wire.Reader) bool { return r.Hash() == (s + strings.Repeat("\x00", 32))[:32] }},
		{func(w *wire.Writer) { w.Bool(yes) }, func(r *wire.Reader) bool { return r.Bool() == yes }},
		{func(w *wire.Writer) { w.Text(wire.Frame(s)) }, func(r *wire.Reader) bool {
			got, at, e := wire.Unframe(r.Text(len(s)+8), 0)
			return got == s && at == len(s)+8 && e == api.OK
		}},
	}
	return all[d.Intn(len(all))]
}

// Promise 3.4: what was put is taken again, in any order of kinds; and behind it nothing is left.
func TestWhatWasPutIsTakenAgain(t *testing.T) {
	d := rand.New(rand.NewSource(3))
	for range 300 {
		w := wire.NewWriter()
		var items []item
		for range d.Intn(30) {
			items = append(items, drawn(d))
			items[len(items)-1].put(w)
		}
		r := wire.NewReader(w.All())
		for i, x := range items {
			if !x.same(r) || r.Err() != api.OK {
				t.Fatalf("item %d is taken otherwise than it was put: %d", i, r.Err())
			}
		}
		if e := r.End(); e != api.OK || r.At() != w.Len() || r.Left() != 0 {
			t.Fatalf("at the end: %d, at %d of %d", e, r.At(), w.Len())
		}
	}
}

// Promise 3.4: what was put and then cut is never taken whole.
func TestWhatWasCutIsNotTaken(t *testing.T) {
	w := wire.NewWriter()
	w.Number(258, 2)
	w.Text("some text")
	w.Bool(true)
	w.Hash(sample(32))
	w.Count(7)
	for n := range w.Len() {
		r := wire.NewReader(w.All()[:n])
		r.Number(2)
		r.Text(100)
		r.Bool()
		r.Hash()
		r.Count(100)
		if e := r.End(); e != api.ErrCut {
			t.Errorf("%d bytes of %d: %d, want ErrCut", n, w.Len(), e)
		}
	}
}

package wire_test

import (
	"math"
	"strings"
	"testing"

	"muniment/api"
	"muniment/wire"
)

// stands holds where a reader is, and what its error is.
func stands(t *testing.T, what string, r *wire.Reader, at, left int, e api.Errno) {
	t.Helper()
	if r.At() != at || r.Left() != left || r.Err() != e {
		t.Errorf("%q: at %d, %d left, the error %d; want %d, %d, %d", what, r.At(), r.Left(), r.Err(), at, left, e)
	}
}

// silent holds that every call that takes answers zero values.
func silent(t *testing.T, what string, r *wire.Reader) {
	t.Helper()
	for _, n := range []int{0, 1, 8, 9, 100, -1, math.MinInt, math.MaxInt} {
		if s := r.Bytes(n); s != "" {
			t.Errorf("%s: Bytes(%d): %q", what, n, s)
		}
		if x := r.Number(n); x != 0 {
			t.Errorf("%s: Number(%d): %d", what, n, x)
		}
		if x := r.Count(n); x != 0 {
			t.Errorf("%s: Count(%d): %d", what, n, x)
		}
		if s := r.Text(n); s != "" {
			t.Errorf("%s: Text(%d): %q", what, n, s)
		}
	}
	if s := r.Hash(); s != "" {
		t.Errorf("%s: Hash: %q", what, s)
	}
	if r.Bool() {
		t.Errorf("%s: Bool", what)
	}
}

// Promise 3.2: bytes are taken from the front, and are counted.
func TestReaderBytes(t *testing.T) {
	r := wire.NewReader("abcdef")
	stands(t, "new", r, 0, 6, api.OK)
	for _, x := range []struct {
		n    int
		want string
		at   int
	}{{1, "a", 1}, {0, "", 1}, {3, "bcd", 4}, {2, "ef", 6}, {0, "", 6}} {
		if got := r.Bytes(x.n); got != x.want {
			t.Errorf("Bytes(%d): %q, want %q", x.n, got, x.want)
		}
		stands(t, x.want, r, x.at, 6-x.at, api.OK)
	}
	if e := r.End(); e != api.OK {
		t.Error(e)
	}
}

// Promise 3.2: Bytes tells ErrArg below 0, ErrCut where fewer are left, and takes nothing then.
func TestReaderBytesThatAreNotThere(t *testing.T) {
	for _, x := range []struct {
		n    int
		want api.Errno
	}{{-1, api.ErrArg}, {math.MinInt, api.ErrArg}, {5, api.ErrCut}, {6, api.ErrCut}, {math.MaxInt, api.ErrCut}} {
		r := wire.NewReader("abcdef")
		r.Bytes(2)
		if s := r.Bytes(x.n); s != "" {
			t.Errorf("Bytes(%d): %q", x.n, s)
		}
		stands(t, "Bytes", r, 2, 4, x.want)
	}
}

// Promises 3.2 and 3.4: numbers of 0 to 8 bytes, the highest first.
func TestReaderNumber(t *testing.T) {
	for _, n := range numbers() {
		for bytes := range 9 {
			want := n
			if bytes < 8 {
				want = n & (1<<(8*bytes) - 1)
			}
			r := wire.NewReader(plainNumber(n, bytes) + "behind")
			if got := r.Number(bytes); got != want {
				t.Errorf("%x in %d bytes: %x, want %x", n, bytes, got, want)
			}
			stands(t, "Number", r, bytes, 6, api.OK)
		}
	}
}

// Promise 3.2: Number tells ErrArg if it is not of 0 to 8 bytes, though the bytes end, too; ErrCut where they end.
func TestReaderNumberThatIsNotThere(t *testing.T) {
	for _, s := range []string{"", "abc", sample(20)} {
		for _, bytes := range []int{-1, -8, 9, 10, 21, 256, math.MinInt, math.MaxInt} {
			r := wire.NewReader(s)
			if n := r.Number(bytes); n != 0 {
				t.Errorf("Number(%d): %d", bytes, n)
			}
			stands(t, "Number", r, 0, len(s), api.ErrArg)
		}
	}
	for bytes := 1; bytes < 9; bytes++ {
		r := wire.NewReader("ab" + sample(bytes-1))
		r.Bytes(2)
		if n := r.Number(bytes); n != 0 {
			t.Errorf("Number(%d): %d", bytes, n)
		}
		stands(t, "Number", r, 2, bytes-1, api.ErrCut)
	}
}

// Promise 3.2: a count up to its most, and ErrMany above it; a count of all its 4 bytes, too.
func TestReaderCount(t *testing.T) {
	for _, n := range []int{0, 1, 2, 255, 256, 65536, 1<<31 - 1, 1 << 31, 1<<32 - 1} {
		s := "ab" + plainNumber(uint64(n), 4) + "xyz"
		for _, most := range []int{n, n + 1, 1<<32 - 1, math.MaxInt} {
			r := wire.NewReader(s)
			r.Bytes(2)
			if got := r.Count(most); got != n {
				t.Errorf("Count(%d): %d, want %d", most, got, n)
			}
			stands(t, "Count", r, 6, 3, api.OK)
		}
		for _, most := range []int{n - 1, -1, -2, math.MinInt, n - 1<<32} {
			r := wire.NewReader(s)
			r.Bytes(2)
			if got := r.Count(most); got != 0 {
				t.Errorf("Count(%d) of %d: %d", most, n, got)
			}
			stands(t, "Count", r, 2, 7, api.ErrMany)
		}
	}
}

// Promise 3.2: where there is no count, the bytes end, whatever its most is.
func TestReaderCountThatIsNotThere(t *testing.T) {
	for n := range 4 {
		for _, most := range []int{0, 5, math.MaxInt, -1, math.MinInt} {
			r := wire.NewReader("ab\xff\xff\xff"[:2+n])
			r.Bytes(2)
			if got := r.Count(most); got != 0 {
				t.Errorf("Count(%d): %d", most, got)
			}
			stands(t, "Count", r, 2, n, api.ErrCut)
		}
	}
}

// Promise 3.2: a text is a count and as many bytes.
func TestReaderText(t *testing.T) {
	for _, n := range []int{0, 1, 5, 255, 256, 70000} {
		for _, most := range []int{n, n + 1, math.MaxInt} {
			r := wire.NewReader("ab" + plainNumber(uint64(n), 4) + sample(n) + "xyz")
			r.Bytes(2)
			if got := r.Text(most); got != sample(n) {
				t.Errorf("Text(%d): %d bytes, want %d", most, len(got), n)
			}
			stands(t, "Text", r, 6+n, 3, api.OK)
		}
	}
}

// Promise 3.2: of a text that is not there nothing is taken, its count no more than its bytes; ErrMany though the bytes end, too.
func TestReaderTextThatIsNotThere(t *testing.T) {
	for _, x := range []struct {
		s    string
		most int
		want api.Errno
	}{
		{"", 10, api.ErrCut},
		{"\x00\x00\x00", 10, api.ErrCut},
		{"\x00\x00\x00\x01", 10, api.ErrCut},
		{"\x00\x00\x00\x05text", 10, api.ErrCut},
		{"\xff\xff\xff\xfftext", math.MaxInt, api.ErrCut},
		{"\x00\x00\x00\x04text", 3, api.ErrMany},
		{"\x00\x00\x00\x04text", 0, api.ErrMany},
		{"\x00\x00\x00\x05text", 4, api.ErrMany},
		{"\x00\x00\x00\x00", -1, api.ErrMany},
		{"\x00\x00\x00\x04text", -1, api.ErrMany},
		{"\x00\x00\x00\x04text", math.MinInt, api.ErrMany},
	} {
		r := wire.NewReader("ab" + x.s)
		r.Bytes(2)
		if got := r.Text(x.most); got != "" {
			t.Errorf("%q: Text(%d): %q", x.s, x.most, got)
		}
		stands(t, x.s, r, 2, len(x.s), x.want)
	}
}

// Promise 3.2: a digest is 32 bytes; with fewer the bytes end.
func TestReaderHash(t *testing.T) {
	r := wire.NewReader(sample(70))
	if a, b := r.Hash(), r.Hash(); a != sample(70)[:32] || b != sample(70)[32:64] {
		t.Errorf("%x, %x", a, b)
	}
	if s := r.Hash(); s != "" {
		t.Errorf("of 6 bytes: %x", s)
	}
	stands(t, "Hash", r, 64, 6, api.ErrCut)
	for n := range 32 {
		r := wire.NewReader(sample(n))
		if s := r.Hash(); s != "" {
			t.Errorf("of %d bytes: %x", n, s)
		}
		stands(t, "Hash", r, 0, n, api.ErrCut)
	}
}

// Promise 3.2: yes and no are 1 and 0; every other byte is ErrForm, no byte is ErrCut.
func TestReaderBool(t *testing.T) {
	for b := range 256 {
		r := wire.NewReader("a" + string([]byte{byte(b)}) + "z")
		r.Bytes(1)
		if got := r.Bool(); got != (b == 1) {
			t.Errorf("byte %d: %v", b, got)
		}
		if b <= 1 {
			stands(t, "Bool", r, 2, 1, api.OK)
		} else {
			stands(t, "Bool", r, 1, 2, api.ErrForm)
		}
	}
	r := wire.NewReader("")
	if r.Bool() {
		t.Error("of nothing")
	}
	stands(t, "Bool", r, 0, 0, api.ErrCut)
}

// Promise 3.2: the first error stays, whatever comes later; each call answers zero values then, and takes nothing.
func TestReaderKeepsItsFirstError(t *testing.T) {
	good := plainNumber(1, 4) + "\x01" + sample(100)
	for _, x := range []struct {
		want api.Errno
		fail func(*wire.Reader)
	}{
		{api.ErrArg, func(r *wire.Reader) { r.Bytes(-1) }},
		{api.ErrArg, func(r *wire.Reader) { r.Number(9) }},
		{api.ErrCut, func(r *wire.Reader) { r.Bytes(1000) }},
		{api.ErrMany, func(r *wire.Reader) { r.Count(0) }},
		{api.ErrMany, func(r *wire.Reader) { r.Text(-1) }},
		{api.ErrMore, func(r *wire.Reader) { r.End() }},
		{api.ErrTx, func(r *wire.Reader) { r.Fail(api.ErrTx) }},
	} {
		r := wire.NewReader("ab" + good)
		r.Bytes(2)
		x.fail(r)
		stands(t, "at once", r, 2, len(good), x.want)
		silent(t, "behind an error", r)
		r.Fail(api.ErrDead)
		r.Fail(api.OK)
		if e := r.End(); e != x.want {
			t.Errorf("End: %d, want %d", e, x.want)
		}
		stands(t, "later", r, 2, len(good), x.want)
	}
}

// Promise 3.2: Fail lays any error, if there is none yet; OK is none.
func TestReaderFail(t *testing.T) {
	r := wire.NewReader("abc")
	r.Fail(api.OK)
	stands(t, "OK", r, 0, 3, api.OK)
	if s := r.Bytes(1); s != "a" {
		t.Errorf("%q", s)
	}
	r.Fail(api.ErrForm)
	r.Fail(api.ErrCut)
	stands(t, "ErrForm", r, 1, 2, api.ErrForm)
	if s := r.Bytes(0); s != "" || r.Err() != api.ErrForm {
		t.Errorf("%q, %d", s, r.Err())
	}
	other := wire.NewReader("")
	other.Fail(api.Errno(-7))
	if e := other.End(); e != api.Errno(-7) {
		t.Errorf("End: %d", e)
	}
}

// Promise 3.2: at the end ErrMore, if bytes are left, and it stays.
func TestReaderEnd(t *testing.T) {
	r := wire.NewReader("abc")
	if e := r.End(); e != api.ErrMore {
		t.Errorf("3 are left: %d", e)
	}
	stands(t, "End", r, 0, 3, api.ErrMore)
	if s := r.Bytes(3); s != "" || r.End() != api.ErrMore {
		t.Errorf("behind the end: %q, %d", s, r.End())
	}
	r = wire.NewReader("abc")
	r.Bytes(2)
	if e := r.End(); e != api.ErrMore {
		t.Errorf("1 is left: %d", e)
	}
	r = wire.NewReader("abc")
	r.Bytes(3)
	if a, b := r.End(), r.End(); a != api.OK || b != api.OK {
		t.Errorf("none is left: %d, %d", a, b)
	}
	stands(t, "End", r, 3, 0, api.OK)
	if e := wire.NewReader("").End(); e != api.OK {
		t.Errorf("of nothing: %d", e)
	}
	if s := r.Bytes(1); s != "" || r.End() != api.ErrCut {
		t.Errorf("an error behind a good end: %q, %d", s, r.End())
	}
}

// Promise 3.2: a nil reader answers ErrArg and zero values; one that NewReader did not make goes through nothing.
func TestReaderOfNothing(t *testing.T) {
	var none *wire.Reader
	silent(t, "nil", none)
	none.Fail(api.ErrForm)
	none.Fail(api.OK)
	if e := none.End(); e != api.ErrArg {
		t.Errorf("nil: End: %d", e)
	}
	stands(t, "nil", none, 0, 0, api.ErrArg)
	empty := &wire.Reader{}
	if e := empty.End(); e != api.OK {
		t.Errorf("End: %d", e)
	}
	silent(t, "empty", empty)
	stands(t, "empty", empty, 0, 0, api.ErrCut)
}

// Promise 3.2: each reader has a place and an error of its own.
func TestReadersAreApart(t *testing.T) {
	s := strings.Repeat("ab", 10)
	a, b := wire.NewReader(s), wire.NewReader(s)
	a.Bytes(7)
	b.Fail(api.ErrForm)
	stands(t, "a", a, 7, 13, api.OK)
	stands(t, "b", b, 0, 20, api.ErrForm)
}

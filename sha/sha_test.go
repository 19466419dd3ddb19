package sha_test

import (
	"crypto/sha256"
	"encoding/binary"
	"encoding/hex"
	"math/rand"
	"slices"
	"strings"
	"testing"

	"muniment/api"
	"muniment/sha"
)

// sample is so many bytes, most of them no letters.
func sample(n int) string {
	out := make([]byte, n)
	for i := range out {
		out[i] = byte(i*167 + i/251 + 129)
	}
	return string(out)
}

// plain is the library's digest.
func plain(s string) string {
	h := sha256.Sum256([]byte(s))
	return string(h[:])
}

// layout is what Tagged digests, by the document's words.
func layout(purpose byte, parts []string) string {
	out := []byte{purpose}
	for _, p := range parts {
		out = binary.BigEndian.AppendUint32(out, uint32(len(p)))
		out = append(out, p...)
	}
	return string(out)
}

// Promise 1.1: Sum is SHA-256, by the examples of FIPS 180-4.
func TestSumOfTheStandardsExamples(t *testing.T) {
	for _, x := range []struct{ name, text, want string }{
		{"nothing", "", "e3b0c44298fc1c149afbf4c8996fb92427ae41e4649b934ca495991b7852b855"},
		{"abc", "abc", "ba7816bf8f01cfea414140de5dae2223b00361a396177a9cb410ff61f20015ad"},
		{"56 bytes", "abcdbcdecdefdefgefghfghighijhijkijkljklmklmnlmnomnopnopq",
			"248d6a61d20638b8e5c026930c3e6039a33ce45964ff2167f6ecedd419db06c1"},
		{"112 bytes", "abcdefghbcdefghicdefghijdefghijkefghijklfghijklmghijklmnhijklmnoijklmnopjklmnopqklmnopqrlmnopqrsmnopqrstnopqrstu",
			"cf5b16a778af8380036ce59e7b0492370b249b11e8f07a51afac45037afee9d1"},
		{"a million bytes", strings.Repeat("a", 1000000), "cdc76e5c9914fb9281a1c7e284d73e67f1809a48a497200e046d39ccc7112cd0"},
	} {
		if got := hex.EncodeToString([]byte(sha.Sum(x.text))); got != x.want {
			t.Errorf("Sum of %s: %s, want %s", x.name, got, x.want)
		}
	}
}

// Promise 1.1: at all lengths around the ends of blocks.
func TestSumAtAllLengths(t *testing.T) {
	for n := range 4 * 64 {
		s := sample(n)
		got := sha.Sum(s)
		if got != plain(s) {
			t.Errorf("Sum of %d bytes: %x, want %x", n, got, plain(s))
		}
		if len(got) != api.HashBytes {
			t.Errorf("Sum of %d bytes has %d bytes", n, len(got))
		}
	}
}

// Promise 1.1: a digest that is told is the same each time, and of unlike texts another one.
func TestSumHangsOnItsTextAlone(t *testing.T) {
	if sha.Sum("a") != sha.Sum("a") {
		t.Error("one text, two digests")
	}
	seen := map[string]int{}
	for n := range 100 {
		s := strings.Repeat("\x00", n)
		if m, ok := seen[sha.Sum(s)]; ok {
			t.Errorf("%d and %d noughts have one digest", m, n)
		}
		seen[sha.Sum(s)] = n
	}
}

// Promise 1.1: Tagged is the digest of the purpose's byte, and of each part its length and it.
func TestTagged(t *testing.T) {
	for _, purpose := range []byte{0, 1, 'T', 0x7f, 0x80, 0xc3, 0xff} { // from 0x80 on a byte is not its own UTF-8
		for _, parts := range [][]string{
			nil,
			{""},
			{"", ""},
			{"abc"},
			{"ab", "c"},
			{"a", "bc"},
			{"", "abc"},
			{"abc", ""},
			{sample(50)},
			{sample(51)},
			{sample(59), sample(60), sample(64)},
			{sample(255), sample(256), sample(257), sample(65536)},
			strings.Split(sample(200), ""),
		} {
			if got, want := sha.Tagged(purpose, parts...), plain(layout(purpose, parts)); got != want {
				t.Errorf("Tagged(%d, %d parts): %x, want %x", purpose, len(parts), got, want)
			}
		}
	}
}

// Promise 1.1: a part's length fills all of its 4 bytes.
func TestTaggedOfALongPart(t *testing.T) {
	parts := []string{"x", strings.Repeat("y", 0x01020304), "z"}
	if sha.Tagged('K', parts...) != plain(layout('K', parts)) {
		t.Error("a part of 0x01020304 bytes")
	}
}

// Promise 1.1: purposes, and how a text is cut into parts, are told apart.
func TestTaggedTellsApart(t *testing.T) {
	seen := map[string]string{}
	note := func(name, digest string) {
		if other, ok := seen[digest]; ok {
			t.Errorf("%s and %s have one digest", other, name)
		}
		seen[digest] = name
	}
	note("x", sha.Tagged('x'))
	note("y", sha.Tagged('y'))
	note("x of an empty part", sha.Tagged('x', ""))
	note("x of two empty parts", sha.Tagged('x', "", ""))
	note("x of ab, c", sha.Tagged('x', "ab", "c"))
	note("x of a, bc", sha.Tagged('x', "a", "bc"))
	note("x of c, ab", sha.Tagged('x', "c", "ab"))
	note("x of abc", sha.Tagged('x', "abc"))
	note("y of abc", sha.Tagged('y', "abc"))
	note("xabc, not for a purpose", sha.Sum("xabc"))
}

// Rules R2 and R3: a list of parts stays as it is, and an empty one is the same as none.
func TestTaggedLeavesItsPartsBe(t *testing.T) {
	parts := []string{"a", "b", "c"}
	before := sha.Tagged('x', parts[:2]...)
	if !slices.Equal(parts, []string{"a", "b", "c"}) {
		t.Errorf("parts are %q now", parts)
	}
	parts[0] = "z"
	if before != sha.Tagged('x', "a", "b") {
		t.Error("a digest that was told is another one")
	}
	if sha.Tagged('x', []string{}...) != sha.Tagged('x') {
		t.Error("an empty list and none")
	}
}

// Promise 1.1: Same looks at every byte, and at both lengths.
func TestSame(t *testing.T) {
	for n := range 70 {
		s := sample(n)
		if !sha.Same(s, strings.Clone(s)) {
			t.Errorf("%d bytes are not the same", n)
		}
		if sha.Same(s, s+"\x00") || sha.Same(s+"\x00", s) {
			t.Errorf("%d bytes are the same as one more", n)
		}
		for i := range n {
			for bit := range 8 {
				b := []byte(s)
				b[i] ^= 1 << bit
				if sha.Same(s, string(b)) || sha.Same(string(b), s) {
					t.Errorf("%d bytes are the same with bit %d of byte %d another one", n, bit, i)
				}
			}
		}
	}
}

// Promise 1.1: Same is of bytes: unlike ones never weigh each other out.
func TestSameOfUnlikeBytesThatAreAsMany(t *testing.T) {
	for _, x := range [][2]string{{"ab", "ba"}, {"\x01\x02\x03", "\x02\x03\x01"}, {"\xff\xff", "\x00\x00"}, {"\xff", "\xfe"}} {
		if sha.Same(x[0], x[1]) {
			t.Errorf("%q and %q are the same", x[0], x[1])
		}
	}
}

// Promise 1.1: a collision is of unlike texts, and of one digest.
func TestCollide(t *testing.T) {
	for _, w := range []api.Witness{
		{},
		{A: "a", B: "a"},
		{A: sample(300), B: sample(300)},
		{A: "a", B: "b"},
		{A: "", B: "a"},
		{A: "a", B: ""},
		{A: "a", B: "a\x00"},
		{A: sha.Sum("a"), B: "a"},
		{A: sample(64), B: sample(65)},
	} {
		if sha.Collide(w) {
			t.Errorf("%q and %q collide", w.A, w.B)
		}
	}
}

// Promise 1.2: a digest of nothing is that of an empty text, whatever empty texts it takes in.
func TestDigestOfNothing(t *testing.T) {
	d := sha.New()
	if d == nil {
		t.Fatal("New is nil")
	}
	for range 3 {
		if d.Sum() != plain("") {
			t.Errorf("%x", d.Sum())
		}
		d.Write("")
	}
	d.Write("abc")
	if d.Sum() != plain("abc") {
		t.Errorf("abc behind nothing: %x", d.Sum())
	}
}

// Promise 1.2: a digest that New did not make is one of nothing as well.
func TestZeroDigest(t *testing.T) {
	var d sha.Digest
	if d.Sum() != plain("") {
		t.Errorf("%x", d.Sum())
	}
	d.Write("abc")
	if d.Sum() != plain("abc") {
		t.Errorf("%x", d.Sum())
	}
}

// Promise 1.2: a nil digest takes nothing, and its Sum is empty.
func TestNilDigest(t *testing.T) {
	var d *sha.Digest
	if d.Sum() != "" {
		t.Errorf("%x", d.Sum())
	}
	d.Write("")
	d.Write("abc")
	d.Write(sample(200))
	if d.Sum() != "" {
		t.Errorf("%x", d.Sum())
	}
}

// Promise 1.2: Sum changes nothing, and more may be taken in behind it, wherever a block ends.
func TestMoreBehindSum(t *testing.T) {
	for n := range 3 * 64 {
		d := sha.New()
		d.Write(sample(n))
		first := d.Sum()
		if first != plain(sample(n)) || d.Sum() != first {
			t.Errorf("%d bytes: the digest", n)
		}
		d.Write("and more")
		if d.Sum() != plain(sample(n)+"and more") {
			t.Errorf("%d bytes: more behind the digest", n)
		}
		if first != plain(sample(n)) {
			t.Errorf("%d bytes: a digest that was told is another one", n)
		}
	}
}

// Promise 1.2: digests are apart from one another.
func TestTwoDigests(t *testing.T) {
	a, b := sha.New(), sha.New()
	for i := range 100 {
		a.Write(sample(i))
		b.Write("b")
	}
	if b.Sum() != plain(strings.Repeat("b", 100)) {
		t.Error("one took in what the other one did")
	}
}

// Promise 1.3: a text in two pieces, wherever it is cut, or in three with nothing in the middle.
func TestTwoPieces(t *testing.T) {
	s := sample(200)
	want := plain(s)
	for cut := range len(s) + 1 {
		d := sha.New()
		d.Write(s[:cut])
		d.Write("")
		d.Write(s[cut:])
		if d.Sum() != want {
			t.Errorf("cut at %d", cut)
		}
	}
}

// Promise 1.3: a text in pieces that are all as long, with a digest told behind each.
func TestPiecesOfOneLength(t *testing.T) {
	s := sample(700)
	for size := 1; size <= 200; size++ {
		d := sha.New()
		for piece := range slices.Chunk([]byte(s), size) {
			d.Write(string(piece))
			d.Sum()
		}
		if d.Sum() != sha.Sum(s) {
			t.Errorf("pieces of %d bytes", size)
		}
	}
}

// Promise 1.3: a text in pieces of all kinds of lengths.
func TestPiecesOfAnyLength(t *testing.T) {
	draw := rand.New(rand.NewSource(1))
	for range 300 {
		s := sample(draw.Intn(2000))
		d := sha.New()
		for left := s; left != ""; {
			n := draw.Intn(min(len(left), 150) + 1)
			d.Write(left[:n])
			left = left[n:]
		}
		if d.Sum() != plain(s) {
			t.Errorf("%d bytes in pieces", len(s))
		}
	}
}

// The limits of all of it: a text of so many bits that 32 bits can't count them.
func TestLongText(t *testing.T) {
	if testing.Short() {
		t.Skip("half a gigabyte")
	}
	piece := strings.Repeat(sample(1<<10), 1<<10)
	d, h := sha.New(), sha256.New()
	for range 1<<9 + 1 {
		d.Write(piece)
		h.Write([]byte(piece))
	}
	if got, want := d.Sum(), string(h.Sum(nil)); got != want {
		t.Errorf("%x, want %x", got, want)
	}
}

package mac_test

import (
	"crypto/hmac"
	"crypto/sha256"
	"encoding/hex"
	"strings"
	"testing"

	"muniment/api"
	"muniment/mac"
)

// sample is so many bytes, letters and others, in rounds of 11 that never fall on the ends of blocks alike.
func sample(n int) string { return strings.Repeat("\x00\x81\xffmuniment", n/11+1)[:n] }

// plain is the library's tag.
func plain(key, s string) string {
	h := hmac.New(sha256.New, []byte(key))
	h.Write([]byte(s))
	return string(h.Sum(nil))
}

// turned is a text with one of its bits another one.
func turned(s string, i, bit int) string {
	b := []byte(s)
	b[i] ^= 1 << bit
	return string(b)
}

// lengths is how long keys and texts are: around a tag's 32 bytes, and around the ends of blocks of 64.
var lengths = []int{0, 1, 2, 31, 32, 33, 55, 56, 63, 64, 65, 66, 127, 128, 129, 1000}

// Promise 2.1: Tag is HMAC with SHA-256, by the cases of RFC 4231 (the chapter's example is the second one).
func TestTagOfTheStandardsCases(t *testing.T) {
	for _, x := range []struct{ name, key, text, want string }{
		{"1", strings.Repeat("\x0b", 20), "Hi There",
			"b0344c61d8db38535ca8afceaf0bf12b881dc200c9833da726e9376c2e32cff7"},
		{"2", "Jefe", "what do ya want for nothing?",
			"5bdcc146bf60754e6a042426089575c75a003f089d2739839dec58b964ec3843"},
		{"3", strings.Repeat("\xaa", 20), strings.Repeat("\xdd", 50),
			"773ea91e36800e46854db8ebd09181a72959098b3ef8c122d9635514ced565fe"},
		{"4", "\x01\x02\x03\x04\x05\x06\x07\x08\x09\x0a\x0b\x0c\x0d\x0e\x0f\x10\x11\x12\x13\x14\x15\x16\x17\x18\x19", strings.Repeat("\xcd", 50),
			"82558a389a443c0ea4cc819899f2083a85f0faa3e578f8077a2e3ff46729665b"},
		{"6", strings.Repeat("\xaa", 131), "Test Using Larger Than Block-Size Key - Hash Key First",
			"60e431591ee0b67f0d8a26aacbf5b77f8e0bc6213728c5140546040f0ee37f54"},
		{"7", strings.Repeat("\xaa", 131), "This is a test using a larger than block-size key and a larger than block-size data. The key needs to be hashed before being used by the HMAC algorithm.",
			"9b09ffa71b942fcb27635fbcd5b0e944bfdc63644f0713938a7f51535c3a35e2"},
	} {
		if got := hex.EncodeToString([]byte(mac.Tag(x.key, x.text))); got != x.want {
			t.Errorf("case %s: %s, want %s", x.name, got, x.want)
		}
	}
}

// Promise 2.1: Tag at keys and texts of all lengths around the ends of blocks; a key of more than a block is digested, one of a block is not.
func TestTagAtTheEndsOfBlocks(t *testing.T) {
	for _, k := range lengths {
		for _, n := range lengths {
			key, s := sample(k), sample(n)
			got := mac.Tag(key, s)
			if got != plain(key, s) {
				t.Errorf("a key of %d bytes, a text of %d: %x, want %x", k, n, got, plain(key, s))
			}
			if len(got) != api.HashBytes {
				t.Errorf("a tag of %d bytes", len(got))
			}
		}
	}
}

// Promise 2.1: empty keys and empty texts have tags, too.
func TestTagOfNothing(t *testing.T) {
	for _, x := range [][2]string{{"", ""}, {"k", ""}, {"", "s"}} {
		if got := mac.Tag(x[0], x[1]); got != plain(x[0], x[1]) {
			t.Errorf("Tag(%q, %q): %x", x[0], x[1], got)
		}
	}
}

// Promise 2.1: the key and the text are apart: what moves from one to the other, or changes places, has another tag.
func TestTagTellsApart(t *testing.T) {
	seen := map[string][2]string{}
	for _, x := range [][2]string{{"ab", "c"}, {"a", "bc"}, {"c", "ab"}, {"", "abc"}, {"abc", ""}, {"", ""}} {
		tag := mac.Tag(x[0], x[1])
		if other, ok := seen[tag]; ok {
			t.Errorf("%q and %q have one tag", other, x)
		}
		seen[tag] = x
	}
}

// Promise 2.1: Check takes the right tag alone.
func TestCheck(t *testing.T) {
	for _, n := range lengths {
		key, s := "a key", sample(n)
		tag := plain(key, s)
		if !mac.Check(key, s, tag) {
			t.Errorf("%d bytes: the right tag is refused", n)
		}
		if mac.Check("a kez", s, tag) || mac.Check("", s, tag) || mac.Check(key, s+"x", tag) {
			t.Errorf("%d bytes: a tag of another key or text is taken", n)
		}
	}
}

// Promise 2.1: Check looks at every bit of a tag.
func TestCheckOfEveryBit(t *testing.T) {
	tag := mac.Tag("key", "text")
	for i := range len(tag) {
		for bit := range 8 {
			if mac.Check("key", "text", turned(tag, i, bit)) {
				t.Errorf("bit %d of byte %d is another one, and the tag is taken", bit, i)
			}
		}
	}
}

// Promise 2.1: a tag that is longer or shorter than it must be is wrong.
func TestCheckOfTagsOfOtherLengths(t *testing.T) {
	tag := mac.Tag("key", "text")
	for n := range len(tag) {
		if mac.Check("key", "text", tag[:n]) {
			t.Errorf("the first %d bytes of a tag are taken", n)
		}
	}
	for _, wrong := range []string{tag + "\x00", "\x00" + tag, tag + tag, tag[1:], hex.EncodeToString([]byte(tag))} {
		if mac.Check("key", "text", wrong) {
			t.Errorf("%x is taken", wrong)
		}
	}
}

// Promise 2.1: a sealed text is the text with its tag behind it.
func TestSeal(t *testing.T) {
	for _, k := range lengths {
		for _, n := range lengths {
			key, s := sample(k), sample(n)
			if got := mac.Seal(key, s); got != s+plain(key, s) {
				t.Errorf("a key of %d bytes, a text of %d: %x", k, n, got)
			}
		}
	}
}

// Promise 2.1: what was sealed opens under its key, and under no other one.
func TestOpen(t *testing.T) {
	for _, n := range lengths {
		s := sample(n)
		sealed := s + plain("key", s)
		if got, e := mac.Open("key", sealed); got != s || e != api.OK {
			t.Errorf("%d bytes: %q, %d", n, got, e)
		}
		for _, key := range []string{"", "kez", "key ", "KEY"} {
			if got, e := mac.Open(key, sealed); got != "" || e != api.ErrMac {
				t.Errorf("%d bytes, under %q: %q, %d", n, key, got, e)
			}
		}
	}
}

// Promise 2.1: ErrCut at fewer than 32 bytes, ErrMac from 32 on; with both the text is empty.
func TestOpenOfFewBytes(t *testing.T) {
	whole := mac.Seal("key", "")
	for n := range api.HashBytes {
		if got, e := mac.Open("key", whole[:n]); got != "" || e != api.ErrCut {
			t.Errorf("%d bytes: %q, %d, want ErrCut", n, got, e)
		}
	}
	if got, e := mac.Open("key", whole); got != "" || e != api.OK {
		t.Errorf("32 bytes that are right: %q, %d", got, e)
	}
	if got, e := mac.Open("key", turned(whole, 31, 0)); got != "" || e != api.ErrMac {
		t.Errorf("32 bytes that are wrong: %q, %d, want ErrMac", got, e)
	}
}

// Promise 2.1: whichever bit of what was sealed is another one, and wherever it is cut or goes on, it does not open.
func TestOpenOfWhatWasChanged(t *testing.T) {
	sealed := mac.Seal("key", "some text")
	wrong := []string{sealed + "\x00", "\x00" + sealed, sealed + sealed, sealed[1:]}
	for n := api.HashBytes; n < len(sealed); n++ {
		wrong = append(wrong, sealed[:n])
	}
	for i := range len(sealed) {
		for bit := range 8 {
			wrong = append(wrong, turned(sealed, i, bit))
		}
	}
	for _, s := range wrong {
		if got, e := mac.Open("key", s); got != "" || e != api.ErrMac {
			t.Errorf("%x: %q, %d, want ErrMac", s, got, e)
		}
	}
}

// Promise 2.1: what is sealed twice opens twice.
func TestSealOfWhatIsSealed(t *testing.T) {
	twice := mac.Seal("outer", mac.Seal("inner", "text"))
	once, e := mac.Open("outer", twice)
	if e != api.OK {
		t.Fatal(e)
	}
	if got, e := mac.Open("inner", once); got != "text" || e != api.OK {
		t.Errorf("%q, %d", got, e)
	}
}

// The limits of all of it: a text of many bytes.
func TestLongText(t *testing.T) {
	s := strings.Repeat(sample(1<<10), 1<<12)
	got, e := mac.Open("key", mac.Seal("key", s))
	if e != api.OK || got != s || mac.Tag("key", s) != plain("key", s) || mac.Tag(s, "text") != plain(s, "text") {
		t.Error("a text of 4 megabytes")
	}
}

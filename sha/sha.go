// Package sha is layer 1: see shared/doc/01-sha.md.
package sha

import (
	"strings"

	"muniment/api"
)

// Digest takes bytes in, and tells their digest.
type Digest struct {
	words [hashWords]uint32 // behind the blocks that were full
	block [blockBytes]byte  // the one that is not full yet
	taken uint64            // how many bytes
}

// New is a digest of nothing.
func New() *Digest { return &Digest{} }

// Write takes bytes in.
func (d *Digest) Write(s string) {
	if d == nil {
		return
	}
	if d.taken == 0 { // here, not in New, so that a zero Digest is one of nothing, too
		d.words = firstWords
	}
	for len(s) > 0 {
		at := int(d.taken % blockBytes)
		n := copy(d.block[at:], s)
		s = s[n:]
		d.taken += uint64(n)
		if at+n == blockBytes {
			d.words = mix(d.words, d.block)
		}
	}
}

// Sum is the digest of all that was taken in; more may be taken in behind it.
func (d *Digest) Sum() string {
	if d == nil {
		return ""
	}
	last := *d // the ending goes into a copy: bytes that come later stand in its place
	last.Write(ending(d.taken))
	out := make([]byte, 0, api.HashBytes)
	for _, w := range last.words {
		out = append(out, number(uint64(w), wordBytes)...)
	}
	return string(out)
}

// Sum is the digest of bytes.
func Sum(s string) string {
	d := New()
	d.Write(s)
	return d.Sum()
}

// Tagged is the digest of parts for a purpose: its number, and each part with its length.
func Tagged(purpose byte, parts ...string) string {
	d := New()
	d.Write(number(uint64(purpose), 1))
	for _, p := range parts {
		d.Write(number(uint64(len(p)), partBytes))
		d.Write(p)
	}
	return d.Sum()
}

// Same tells whether two texts are the same, by all of their bytes.
func Same(a, b string) bool {
	if len(a) != len(b) {
		return false
	}
	var unlike byte
	for i := range len(a) { // never left early: how long it takes must not tell where they part
		unlike |= a[i] ^ b[i]
	}
	return unlike == 0
}

// Collide tells whether two texts are unlike ones of one digest.
func Collide(w api.Witness) bool {
	return w.A != w.B && Same(Sum(w.A), Sum(w.B))
}

// ending is what fills a text of so many bytes up to whole blocks: a bit that is set, noughts, and how many bits the text has.
func ending(taken uint64) string {
	over := (taken + 1 + lengthBytes) % blockBytes
	noughts := (blockBytes - over) % blockBytes
	return "\x80" + strings.Repeat("\x00", int(noughts)) + number(8*taken, lengthBytes)
}

// number is a number's lowest bytes, the highest first.
func number(n uint64, bytes int) string {
	out := make([]byte, bytes)
	for i := range bytes {
		out[bytes-1-i] = byte(n >> (8 * i))
	}
	return string(out)
}

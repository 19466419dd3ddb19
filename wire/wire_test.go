package wire_test

import (
	"encoding/binary"
	"hash/crc32"
	"math"
	"strings"
	"testing"

	"muniment/wire"
)

// sample is so many bytes, letters and others.
func sample(n int) string { return strings.Repeat("\x00\x81\xffmuniment", n/11+1)[:n] }

// turned is a text with one of its bits another one.
func turned(s string, i, bit int) string {
	b := []byte(s)
	b[i] ^= 1 << bit
	return string(b)
}

// plainCheck is the library's CRC-32C.
func plainCheck(s string) uint32 {
	return crc32.Checksum([]byte(s), crc32.MakeTable(crc32.Castagnoli))
}

// plainNumber is a number's lowest bytes by the library, for 0 to 8 of them.
func plainNumber(n uint64, bytes int) string {
	return string(binary.BigEndian.AppendUint64(nil, n)[8-bytes:])
}

// numbers is numbers of which no two bytes are alike, and the ends of each size.
func numbers() []uint64 {
	out := []uint64{0, 1, 2, 0x0102030405060708, 0xfedcba9876543210, math.MaxUint64}
	for bits := 7; bits < 64; bits++ {
		out = append(out, 1<<bits-1, 1<<bits, 1<<bits+1)
	}
	return out
}

// Promise 3.1: the check is CRC-32C, by cases of RFC 3720 and the catalogue's own.
func TestCrcOfTheStandardsCases(t *testing.T) {
	rising, falling := make([]byte, 32), make([]byte, 32)
	for i := range 32 {
		rising[i], falling[i] = byte(i), byte(31-i)
	}
	for _, x := range []struct {
		s    string
		want uint32
	}{
		{"", 0},
		{"123456789", 0xe3069283},
		{strings.Repeat("\x00", 32), 0x8a9136aa},
		{strings.Repeat("\xff", 32), 0x62a8ab43},
		{string(rising), 0x46dd794e},
		{string(falling), 0x113fdb5c},
	} {
		if got := wire.Crc(x.s); got != x.want {
			t.Errorf("Crc(%q): %08x, want %08x", x.s, got, x.want)
		}
	}
}

// Promise 3.1: the check of every byte, and of texts of many lengths.
func TestCrc(t *testing.T) {
	for b := range 256 {
		s := string([]byte{byte(b)})
		if got := wire.Crc(s); got != plainCheck(s) {
			t.Errorf("byte %d: %08x, want %08x", b, got, plainCheck(s))
		}
	}
	for n := range 300 {
		if s := sample(n); wire.Crc(s) != plainCheck(s) {
			t.Errorf("%d bytes: %08x, want %08x", n, wire.Crc(s), plainCheck(s))
		}
	}
	if s := sample(1 << 22); wire.Crc(s) != plainCheck(s) {
		t.Error("4 megabytes")
	}
}

// Promise 3.1: the chapter's example, and others by hand.
func TestNumberByHand(t *testing.T) {
	for _, x := range []struct {
		n     uint64
		bytes int
		want  string
	}{
		{258, 2, "\x01\x02"},
		{258, 1, "\x02"},
		{258, 3, "\x00\x01\x02"},
		{0, 0, ""},
		{math.MaxUint64, 0, ""},
		{0, 8, "\x00\x00\x00\x00\x00\x00\x00\x00"},
		{0x0102030405060708, 8, "\x01\x02\x03\x04\x05\x06\x07\x08"},
		{0x0102030405060708, 4, "\x05\x06\x07\x08"},
		{math.MaxUint64, 5, "\xff\xff\xff\xff\xff"},
	} {
		if got := wire.Number(x.n, x.bytes); got != x.want {
			t.Errorf("Number(%d, %d): %x, want %x", x.n, x.bytes, got, x.want)
		}
	}
}

// Promise 3.1: a number's lowest bytes, whichever number, however many.
func TestNumber(t *testing.T) {
	for _, n := range numbers() {
		for bytes := range 9 {
			if got := wire.Number(n, bytes); got != plainNumber(n, bytes) {
				t.Errorf("Number(%x, %d): %x, want %x", n, bytes, got, plainNumber(n, bytes))
			}
		}
	}
}

// Promise 3.1: below 0 bytes counts as 0, above 8 as 8.
func TestNumberOfAWrongSize(t *testing.T) {
	for _, n := range numbers() {
		for _, bytes := range []int{-1, -2, -8, -256, math.MinInt} {
			if got := wire.Number(n, bytes); got != "" {
				t.Errorf("Number(%x, %d): %x", n, bytes, got)
			}
		}
		for _, bytes := range []int{9, 10, 16, 256, math.MaxInt} {
			if got := wire.Number(n, bytes); got != plainNumber(n, 8) {
				t.Errorf("Number(%x, %d): %x", n, bytes, got)
			}
		}
	}
}

package wire

import (
	"muniment/api"
)

// Writer puts bytes behind one another.
type Writer struct{ all []byte }

// NewWriter is a writer with nothing.
func NewWriter() *Writer { return &Writer{} }

// Bytes puts bytes.
func (w *Writer) Bytes(s string) {
	if w != nil {
		w.all = append(w.all, s...)
	}
}

// Number puts a number of so many bytes.
func (w *Writer) Number(n uint64, bytes int) { w.Bytes(Number(n, bytes)) }

// Count puts a number of 4 bytes; below 0 it is 0.
func (w *Writer) Count(n int) { w.Number(uint64(max(n, 0)), countBytes) }

// Text puts a text with its length.
func (w *Writer) Text(s string) {
	w.Count(len(s))
	w.Bytes(s)
}

// Hash puts a digest: 32 bytes; of another length it is cut, or filled with noughts.
func (w *Writer) Hash(s string) {
	var place [api.HashBytes]byte
	copy(place[:], s)
	w.Bytes(string(place[:]))
}

// Bool puts yes or no.
func (w *Writer) Bool(b bool) {
	n := uint64(0)
	if b {
		n = 1
	}
	w.Number(n, boolBytes)
}

// Len is how many bytes there are.
func (w *Writer) Len() int {
	if w == nil {
		return 0
	}
	return len(w.all)
}

// All is all bytes.
func (w *Writer) All() string {
	if w == nil {
		return ""
	}
	return string(w.all)
}

package wire

import (
	"math"

	"muniment/api"
)

// mostFramed is how many bytes a frame's text may have.
const mostFramed = math.MaxInt32

// Frame is a text's frame: its length, its check, and it.
func Frame(s string) string {
	return Number(uint64(len(s)), countBytes) + Number(uint64(frameCheck(s)), checkBytes) + s
}

// Unframe is the text of the frame that begins at a place, and the place behind it.
func Unframe(s string, at int) (string, int, api.Errno) {
	if at < 0 || at > len(s) {
		return "", 0, api.ErrArg
	}
	r := NewReader(s[at:])
	count := r.Count(mostFramed)
	check := r.Number(checkBytes)
	text := r.Bytes(count)
	if e := r.Err(); e != api.OK {
		return "", 0, e
	}
	if check != uint64(frameCheck(text)) {
		return "", 0, api.ErrForm
	}
	return text, at + r.At(), api.OK
}

// frameCheck is the check of a text and its count: bits of the count that turn over are found, too.
func frameCheck(s string) uint32 { return checkOn(Crc(Number(uint64(len(s)), countBytes)), s) }

package wire_test

import (
	"math"
	"testing"

	"muniment/api"
	"muniment/wire"
)

// plainFrame is a text's frame by the document's words.
func plainFrame(s string) string {
	count := plainNumber(uint64(len(s)), 4)
	return count + plainNumber(uint64(plainCheck(count+s)), 4) + s
}

// refusedFrame holds that there is no frame at a place: the error, and zero values beside it.
func refusedFrame(t *testing.T, s string, at int, want api.Errno) {
	t.Helper()
	if text, behind, e := wire.Unframe(s, at); text != "" || behind != 0 || e != want {
		t.Errorf("Unframe(%q, %d): %q, %d, %d, want the error %d", s, at, text, behind, e, want)
	}
}

// Promise 3.1: a frame is the count, the check of count and text, the text.
func TestFrame(t *testing.T) {
	if got := wire.Frame(""); got != "\x00\x00\x00\x00\x48\x67\x4b\xc7" {
		t.Errorf("the frame of nothing: %x", got)
	}
	for n := range 300 {
		if s := sample(n); wire.Frame(s) != plainFrame(s) {
			t.Errorf("%d bytes: %x, want %x", n, wire.Frame(s), plainFrame(s))
		}
	}
	if s := sample(1 << 20); wire.Frame(s) != plainFrame(s) {
		t.Error("a megabyte")
	}
}

// Promises 3.1 and 3.4: a frame is taken wherever it begins, whatever stands ahead of it and behind it, and so is the place behind it.
func TestUnframe(t *testing.T) {
	for _, ahead := range []int{0, 1, 7, 8, 9, 100} {
		for _, n := range []int{0, 1, 2, 7, 8, 9, 255, 256, 257, 1000, 70000} {
			for _, behind := range []int{0, 1, 8, 50} {
				frame := plainFrame(sample(n))
				s := sample(ahead) + frame + sample(behind)
				text, at, e := wire.Unframe(s, ahead)
				if text != sample(n) || at != ahead+len(frame) || e != api.OK {
					t.Errorf("%d bytes ahead, %d in it, %d behind: %d bytes, %d, %d", ahead, n, behind, len(text), at, e)
				}
			}
		}
	}
}

// Promises 3.1 and 3.4: frames behind one another are taken one by one, each from the place behind the one ahead.
func TestUnframeOneByOne(t *testing.T) {
	texts := []string{"", "a", "", sample(300), wire.Frame("in a frame"), "\x00\x00\x00\x00"}
	all := ""
	for _, s := range texts {
		all += wire.Frame(s)
	}
	at := 0
	for i, want := range texts {
		s, behind, e := wire.Unframe(all, at)
		if s != want || behind != at+8+len(want) || e != api.OK {
			t.Fatalf("frame %d: %q, %d, %d", i, s, behind, e)
		}
		at = behind
	}
	if at != len(all) {
		t.Errorf("%d of %d bytes", at, len(all))
	}
}

// Promise 3.1: ErrArg at a place outside the text, whatever the text is; its very end is inside.
func TestUnframeOutside(t *testing.T) {
	for _, s := range []string{"", "x", "\xff\xff\xff\xff", wire.Frame("x"), sample(50)} {
		for _, at := range []int{-1, -2, -8, -len(s) - 1, len(s) + 1, len(s) + 8, math.MinInt, math.MaxInt} {
			refusedFrame(t, s, at, api.ErrArg)
		}
		refusedFrame(t, s, len(s), api.ErrCut)
	}
}

// Promise 3.1: ErrMany at a count above 2^31 - 1, though the bytes end, too; ErrCut at the greatest count that may be, and where the count itself is not there.
func TestUnframeOfTooMany(t *testing.T) {
	for _, behind := range []string{"", "\x00", "\x00\x00\x00\x00", sample(100)} {
		for _, n := range []uint64{1 << 31, 1<<31 + 1, 1<<32 - 1} {
			refusedFrame(t, plainNumber(n, 4)+behind, 0, api.ErrMany)
			refusedFrame(t, "abc"+plainNumber(n, 4)+behind, 3, api.ErrMany)
		}
		for _, n := range []uint64{1<<31 - 1, 1<<31 - 2, 1 << 30, 1000} {
			refusedFrame(t, plainNumber(n, 4)+behind, 0, api.ErrCut)
		}
	}
	for n := range 4 {
		refusedFrame(t, "\xff\xff\xff"[:n], 0, api.ErrCut)
	}
}

// Promise 3.1: ErrCut wherever the bytes end within a frame, though the check is another one, too.
func TestUnframeOfWhatIsCut(t *testing.T) {
	for _, n := range []int{0, 1, 2, 20} {
		frame := wire.Frame(sample(n))
		for end := range len(frame) {
			refusedFrame(t, frame[:end], 0, api.ErrCut)
			refusedFrame(t, frame+frame[:end], len(frame), api.ErrCut)
			if end > 4 {
				refusedFrame(t, turned(frame, 4, 0)[:end], 0, api.ErrCut)
			}
		}
	}
}

// Promise 3.1: ErrForm whichever bit of the check or of the text is another one; a count that is another one is no frame, either.
func TestUnframeOfAnotherCheck(t *testing.T) {
	frame := wire.Frame("some text")
	for i := 4; i < len(frame); i++ {
		for bit := range 8 {
			refusedFrame(t, turned(frame, i, bit), 0, api.ErrForm)
		}
	}
	for bit := range 8 {
		refusedFrame(t, turned(frame, 0, bit)+sample(300), 0, []api.Errno{api.ErrCut, api.ErrMany}[bit/7])
		refusedFrame(t, turned(frame, 3, bit)+sample(300), 0, api.ErrForm)
	}
}

// Promise 3.1: the check is of the count and the text; that of the text alone is another one.
func TestUnframeOfTheTextsCheck(t *testing.T) {
	for _, s := range []string{"x", "some text"} {
		count := plainNumber(uint64(len(s)), 4)
		refusedFrame(t, count+plainNumber(uint64(plainCheck(s)), 4)+s, 0, api.ErrForm)
		refusedFrame(t, count+plainNumber(uint64(plainCheck(s+count)), 4)+s, 0, api.ErrForm)
	}
	refusedFrame(t, "\x00\x00\x00\x00\x00\x00\x00\x00", 0, api.ErrForm)
}

package wal_test

import (
	"testing"

	"muniment/api"
	"muniment/disk"
	"muniment/wal"
)

// full holds that a call answers ErrFull, and changes neither the log nor the disk.
func full(t *testing.T, d *disk.Disk, l *wal.Log, call func() api.Errno) {
	t.Helper()
	was, before := d.Clone(), told(l)
	if e := call(); e != api.ErrFull {
		t.Errorf("%d, want ErrFull", e)
	}
	if unlike := sameDisks(d, was); unlike != "" {
		t.Error(unlike)
	}
	if got := told(l); got != before {
		t.Errorf("%s, was %s", got, before)
	}
}

// Promise 12.1: Add where there is no room, by one byte and by many, in a segment and in the next one: ErrFull, nothing is changed; it goes on when there is.
func TestAddWithoutRoom(t *testing.T) {
	for _, most := range []int{1, 1000} {
		d := disk.New()
		l := opened(t, d, most)
		l.Add("a")
		d.Append("w", "loose")
		all := []string{"a"}
		for _, room := range []int{0, d.Used() - 1, d.Used(), d.Used() + 1, d.Used() + len(fr("b", "c")) - 1} {
			d.Room(room)
			full(t, d, l, func() api.Errno { return l.Add("b", "c") })
		}
		d.Room(d.Used() + len(fr("b", "c")))
		if e := l.Add("b", "c"); e != api.OK {
			t.Errorf("Add: %d", e)
		}
		all = append(all, "b", "c")
		segments := 1
		if most == 1 {
			segments = 2
		}
		tells(t, l, "", all, segments, 1)
		full(t, d, l, func() api.Errno { return l.Add("") })
		if e := l.Add(); e != api.OK { // no frame needs no room
			t.Errorf("Add: %d", e)
		}
		tells(t, opened(t, d, most), "", all, l.Segments(), 1)
	}
}

// Promise 12.1: Reset where there is no room for the new base beside all others: ErrFull, the generation is not laid; it goes on when there is.
func TestResetWithoutRoom(t *testing.T) {
	d := with(t, wri("base-1", fr("s", "a")), wri("seg-1-1", fr("b")), syn(), app("w", "loose"))
	l := opened(t, d, 20)
	need := d.Used() + len(fr("t", "x"))
	for _, room := range []int{0, 1, d.Used() - 1, d.Used(), d.Used() + 1, need - 2, need - 1} {
		d.Room(room)
		full(t, d, l, func() api.Errno { return l.Reset("t", []string{"x"}) })
	}
	d.Room(need)
	if e := l.Add("c"); e != api.OK {
		t.Fatalf("Add: %d", e)
	}
	full(t, d, l, func() api.Errno { return l.Reset("t", []string{"x"}) })
	tells(t, opened(t, d.Clone(), 20), "s", []string{"a", "b", "c"}, 1, 1)
	d.Room(need + len(fr("c")))
	if e := l.Reset("t", []string{"x"}); e != api.OK {
		t.Fatalf("Reset: %d", e)
	}
	tells(t, l, "t", []string{"x"}, 0, 2)
	tells(t, opened(t, d, 20), "t", []string{"x"}, 0, 2)
}

// Promise 12.1: Open lays the first generation only where there is room; to open one that is there needs none.
func TestOpenWithoutRoom(t *testing.T) {
	for _, beside := range []string{"", "some bytes"} {
		d := with(t, app("w", beside), syn())
		for _, room := range []int{0, len(beside), len(beside) + 1, len(beside) + 7} {
			d.Room(room)
			refuses(t, d, 20, api.ErrFull)
		}
		d.Room(len(beside) + 8)
		tells(t, opened(t, d, 20), "", nil, 0, 1)
		d.Room(0)
		tells(t, opened(t, d, 20), "", nil, 0, 1)
	}
	d := segmented(t, fr("1")+"torn", fr("2"))
	d.Write("base-2", fr("old"))
	d.Room(0)
	l, torn, e := wal.Open(d, 20)
	if want := 4 + len(fr("2")); torn != want || e != api.OK {
		t.Fatalf("torn %d, want %d; %d", torn, want, e)
	}
	tells(t, l, "snap", []string{"laid", "1"}, 1, 3)
}

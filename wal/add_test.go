package wal_test

import (
	"fmt"
	"strings"
	"testing"

	"muniment/api"
	"muniment/disk"
	"muniment/wal"
)

// adds is a call of Add of a log that is opened on the disk, whose answer is not looked at.
func adds(most int, records ...string) func(*disk.Disk) {
	return func(d *disk.Disk) {
		l, _, _ := wal.Open(d, most)
		l.Add(records...)
	}
}

// Promise 12.1: Add puts its frames in one change into the first segment, then behind it, and makes them sure.
func TestAdd(t *testing.T) {
	for _, records := range [][]string{nil, {"a"}, {""}, {"", ""}, {"a", "b", "c"}, {strings.Repeat("x", 1000), "\x00\xff"}, strings.Split(strings.Repeat("r", 300), "")} {
		d := with(t, wri("base-3", fr("snap", "laid")), syn(), app("w", "loose"))
		doesSteps(t, d, adds(10000, records...), app("seg-3-1", fr(records...)), syn())
		l := opened(t, d, 10000)
		if e := l.Add(records...); e != api.OK {
			t.Fatalf("Add: %d", e)
		}
		all := append([]string{"laid"}, records...)
		tells(t, l, "snap", all, 1, 3)
		d.Append("w", "loose again")
		doesSteps(t, d, adds(10000, "behind", "it"), app("seg-3-1", fr("behind", "it")), syn())
		if e := l.Add("behind", "it"); e != api.OK {
			t.Fatalf("Add: %d", e)
		}
		all = append(all, "behind", "it")
		tells(t, l, "snap", all, 1, 3)
		if s, _ := d.Read("seg-3-1"); s != fr(all[1:]...) {
			t.Errorf("the segment is %.80q", s)
		}
		tells(t, opened(t, d, 10000), "snap", all, 1, 3)
	}
}

// Promise 12.1: a segment that has most bytes or more is followed by the next one, one that has less is not, be it opened or not; the frames of one Add are in one segment.
func TestAddMost(t *testing.T) {
	for _, c := range []struct{ first, most, segments int }{
		{12, 13, 1}, {12, 12, 2}, {12, 11, 2}, {12, 1, 2}, {12, 1 << 40, 1},
		{8, 9, 1}, {8, 8, 2}, {8, 7, 2},
		{100, 101, 1}, {100, 100, 2}, {100, 99, 2}, {100, 20, 2},
	} {
		record := strings.Repeat("a", c.first-8)
		d := disk.New()
		l := opened(t, d, c.most)
		l.Add(record)
		reopened := opened(t, d.Clone(), c.most)
		for _, k := range []*wal.Log{l, reopened} {
			tells(t, k, "", []string{record}, 1, 1)
			if e := k.Add("b", "c", "d"); e != api.OK {
				t.Fatalf("Add: %d", e)
			}
			tells(t, k, "", []string{record, "b", "c", "d"}, c.segments, 1)
		}
		steps := []deed{app(fmt.Sprintf("seg-1-%d", c.segments), fr("b", "c", "d")), syn()}
		before := with(t, wri("base-1", fr("")), wri("seg-1-1", fr(record)), syn(), app("w", "loose"))
		doesSteps(t, before, adds(c.most, "b", "c", "d"), steps...)
	}
}

// Promise 12.1: what is torn of a segment does not count for its length.
func TestAddBehindTorn(t *testing.T) {
	for _, c := range []struct{ most, segments int }{{9, 3}, {17, 3}, {18, 3}, {19, 2}, {24, 2}, {25, 2}} {
		l := opened(t, segmented(t, fr("1"), fr("2", "2")+"123456", fr("3")), c.most)
		tells(t, l, "snap", []string{"laid", "1", "2", "2"}, 2, 3)
		l.Add("x")
		tells(t, l, "snap", []string{"laid", "1", "2", "2", "x"}, c.segments, 3)
	}
}

// Promise 12.1: many Adds, one behind the other: segment behind segment, and what Open finds is the same at each.
func TestAddMany(t *testing.T) {
	for _, most := range []int{1, 9, 20, 50} {
		d := disk.New()
		l := opened(t, d, most)
		var all []string
		sizes := []int{}
		for n := range 130 {
			records := strings.Split(fmt.Sprint(n, " ", n*n), " ")[:n%3%2+1]
			if len(sizes) == 0 || sizes[len(sizes)-1] >= most {
				sizes = append(sizes, 0)
			}
			sizes[len(sizes)-1] += len(fr(records...))
			all = append(all, records...)
			if e := l.Add(records...); e != api.OK {
				t.Fatalf("Add: %d", e)
			}
			tells(t, l, "", all, len(sizes), 1)
			tells(t, opened(t, d.Clone(), most), "", all, len(sizes), 1)
		}
		for i, want := range sizes {
			if s, e := d.Read(fmt.Sprintf("seg-1-%d", i+1)); e != api.OK || len(s) != want {
				t.Errorf("segment %d: %d bytes, want %d; %d", i+1, len(s), want, e)
			}
		}
		if d.Loose() != 0 || len(d.Names()) != len(sizes)+1 {
			t.Errorf("%d loose, %q", d.Loose(), d.Names())
		}
	}
}

// Promise 12.1: Add of no record is the change and the Sync of no frames.
func TestAddNone(t *testing.T) {
	d := disk.New()
	l := opened(t, d, 9)
	doesSteps(t, d, adds(9), app("seg-1-1", ""), syn())
	for range 3 {
		if e := l.Add(); e != api.OK {
			t.Fatalf("Add: %d", e)
		}
		tells(t, l, "", nil, 1, 1)
	}
	l.Add("a")
	tells(t, l, "", []string{"a"}, 1, 1)
	l.Add()
	tells(t, l, "", []string{"a"}, 2, 1)
	l.Add()
	tells(t, opened(t, d, 9), "", []string{"a"}, 2, 1)
	d.Crash(0, 0)
	if e := l.Add(); e != api.ErrDead {
		t.Errorf("Add of a dead disk: %d", e)
	}
}

// Promise 12.2: what was told of stays, even if a segment of the next number was left there behind one that is missing.
func TestAddWhereSomethingIsLeft(t *testing.T) {
	d := with(t, wri("seg-1-1", fr("left")+"torn"), syn())
	l := opened(t, d, 20)
	tells(t, l, "", nil, 0, 1)
	if e := l.Add("a"); e != api.OK {
		t.Fatalf("Add: %d", e)
	}
	tells(t, opened(t, d, 20), "", []string{"a"}, 1, 1)
	d = segmented(t, fr("1"), fr("2"), fr("left")+"torn")
	d.Remove("seg-3-2")
	l = opened(t, d, 1)
	l.Add("a")
	l.Add("b")
	tells(t, opened(t, d, 1), "snap", []string{"laid", "1", "a", "b"}, 3, 3)
}

package wal_test

import (
	"slices"
	"testing"

	"muniment/api"
	"muniment/disk"
	"muniment/wal"
)

// The chapter's example: Add(a), Reset(s, none), Add(b), Open: s, and b behind it.
func TestExample(t *testing.T) {
	d := disk.New()
	l := opened(t, d, 20)
	if e := l.Add("a"); e != api.OK {
		t.Fatal(e)
	}
	if e := l.Reset("s", nil); e != api.OK {
		t.Fatal(e)
	}
	if e := l.Add("b"); e != api.OK {
		t.Fatal(e)
	}
	k, torn, e := wal.Open(d, 20)
	if torn != 0 || e != api.OK {
		t.Fatal(torn, e)
	}
	tells(t, k, "s", []string{"b"}, 1, 2)
}

// Promise 12.1: a nil log: ErrArg, nothing.
func TestNilLog(t *testing.T) {
	var l *wal.Log
	if e := l.Reset("s", []string{"a"}); e != api.ErrArg {
		t.Errorf("Reset: %d", e)
	}
	if e := l.Reset("", nil); e != api.ErrArg {
		t.Errorf("Reset: %d", e)
	}
	if e := l.Add("a"); e != api.ErrArg {
		t.Errorf("Add: %d", e)
	}
	if e := l.Add(); e != api.ErrArg {
		t.Errorf("Add: %d", e)
	}
	tells(t, l, "", nil, 0, 0)
}

// Rule R1: a log that was not opened has no disk.
func TestLogWithoutDisk(t *testing.T) {
	l := &wal.Log{}
	if e := l.Add("a"); e != api.ErrDead {
		t.Errorf("Add: %d", e)
	}
	if e := l.Reset("s", []string{"a"}); e != api.ErrDead {
		t.Errorf("Reset: %d", e)
	}
	tells(t, l, "", nil, 0, 0)
}

// Rule R2: what All tells is the caller's own, and so is what was handed to Add and Reset.
func TestCallersOwn(t *testing.T) {
	d := disk.New()
	l := opened(t, d, 1000)
	laid := []string{"a", "b"}
	l.Reset("s", laid)
	laid[0] = "changed"
	_ = append(laid[:1], "changed")
	tells(t, l, "s", []string{"a", "b"}, 0, 2)
	more := make([]string, 2, 10)
	more[0], more[1] = "c", "d"
	l.Add(more...)
	more[1] = "changed"
	tells(t, l, "s", []string{"a", "b", "c", "d"}, 1, 2)
	all := l.All()
	for i := range all {
		all[i] = "changed"
	}
	_ = append(all[:2], "changed")
	tells(t, l, "s", []string{"a", "b", "c", "d"}, 1, 2)
	k := opened(t, d.Clone(), 1000)
	all = k.All()
	all[0] = "changed"
	tells(t, k, "s", []string{"a", "b", "c", "d"}, 1, 2)
	before := l.All()
	_ = append(before, "changed")
	l.Add("e")
	if len(before) != 4 || !slices.Equal(l.All(), []string{"a", "b", "c", "d", "e"}) {
		t.Errorf("%q, then %q", before, l.All())
	}
	tells(t, k, "s", []string{"a", "b", "c", "d"}, 1, 2)
}

// Rule R2: two lists that were told share nothing, even if both are lengthened.
func TestAllTwice(t *testing.T) {
	l := opened(t, disk.New(), 10)
	for range 5 {
		l.Add("a")
		one, two := l.All(), l.All()
		one, two = append(one, "1"), append(two, "2")
		one[0] = "x"
		if one[len(one)-1] != "1" || two[0] != "a" {
			t.Errorf("%q, %q", one, two)
		}
	}
	tells(t, l, "", []string{"a", "a", "a", "a", "a"}, 3, 1)
}

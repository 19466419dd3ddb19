package wal_test

import (
	"fmt"
	"math"
	"strings"
	"testing"

	"muniment/api"
	"muniment/disk"
	"muniment/wal"
)

// resets is a call of Reset of a log that is opened on the disk, whose answer is not looked at.
func resets(snap string, records ...string) func(*disk.Disk) {
	return func(d *disk.Disk) {
		l, _, _ := wal.Open(d, 20)
		l.Reset(snap, records)
	}
}

// Promise 12.1: Reset lays the next generation: base-g.new is written, Sync, moved, Sync; then the others go, Sync.
func TestReset(t *testing.T) {
	for _, texts := range [][]string{{""}, {"s"}, {"", ""}, {"snap", "a", "", "b"}, {strings.Repeat("s", 2000), "\x00"}} {
		d := with(t, wri("base-9", fr("old", "laid")), wri("seg-9-1", fr("a")), wri("seg-9-2", fr("b")), wri("basement", "stays"), syn(), app("w", "loose"))
		steps := []deed{
			wri("base-10.new", fr(texts...)), syn(), mov("base-10.new", "base-10"), syn(),
			rem("base-9"), rem("seg-9-1"), rem("seg-9-2"), syn(),
		}
		doesSteps(t, d, resets(texts[0], texts[1:]...), steps...)
		l := opened(t, d, 20)
		tells(t, l, "old", []string{"laid", "a", "b"}, 2, 9)
		if e := l.Reset(texts[0], texts[1:]); e != api.OK {
			t.Fatalf("Reset: %d", e)
		}
		tells(t, l, texts[0], texts[1:], 0, 10)
		tells(t, opened(t, d.Clone(), 20), texts[0], texts[1:], 0, 10)
		if got := strings.Join(d.Names(), " "); got != "base-10 basement w" || d.Loose() != 0 {
			t.Errorf("%s, %d loose", got, d.Loose())
		}
	}
}

// Promise 12.1: files of other generations go whatever their numbers, and what was left of a laying that failed is written anew.
func TestResetWithOthers(t *testing.T) {
	d := with(t, wri("base-1", fr("")), syn())
	l := opened(t, d, 20)
	for _, name := range []string{"base-2.new", "base-1.new", "base-3", "base-7.new", "seg-3-1", "seg-1-1", "seg-20-1", "x"} {
		d.Write(name, "left")
	}
	if e := l.Reset("s", []string{"a"}); e != api.OK {
		t.Fatalf("Reset: %d", e)
	}
	tells(t, l, "s", []string{"a"}, 0, 2)
	if got := strings.Join(d.Names(), " "); got != "base-2 x" || d.Loose() != 0 {
		t.Errorf("%s, %d loose", got, d.Loose())
	}
	tells(t, opened(t, d, 20), "s", []string{"a"}, 0, 2)
}

// Promise 12.1: Reset several times, with Adds in between, which go on in segments of the generation from the first on.
func TestResetAndAdd(t *testing.T) {
	d := disk.New()
	l := opened(t, d, 10)
	for g := 2; g < 13; g++ {
		snap := fmt.Sprint("s", g)
		records := strings.Fields("x y z")[:g%4]
		if e := l.Reset(snap, records); e != api.OK {
			t.Fatalf("Reset: %d", e)
		}
		tells(t, l, snap, records, 0, g)
		tells(t, opened(t, d.Clone(), 10), snap, records, 0, g)
		all := append([]string{}, records...)
		for n := range g % 5 {
			if e := l.Add("a", fmt.Sprint(n)); e != api.OK {
				t.Fatalf("Add: %d", e)
			}
			all = append(all, "a", fmt.Sprint(n))
			tells(t, l, snap, all, n+1, g)
			tells(t, opened(t, d.Clone(), 10), snap, all, n+1, g)
			if s, _ := d.Read(fmt.Sprintf("seg-%d-%d", g, n+1)); s != fr("a", fmt.Sprint(n)) {
				t.Errorf("segment %d: %q", n+1, s)
			}
		}
		if s, _ := d.Read(fmt.Sprintf("base-%d", g)); s != fr(append([]string{snap}, records...)...) {
			t.Errorf("base %d: %q", g, s)
		}
		if len(d.Names()) != 1+g%5 || d.Loose() != 0 {
			t.Errorf("%q, %d loose", d.Names(), d.Loose())
		}
	}
}

// Rule R1: behind the greatest number there is no generation.
func TestResetLast(t *testing.T) {
	d := with(t, wri(fmt.Sprint("base-", math.MaxInt-1), fr("s")))
	l := opened(t, d, 20)
	if e := l.Reset("t", nil); e != api.OK {
		t.Fatalf("Reset: %d", e)
	}
	was := d.Clone()
	if e := l.Reset("u", []string{"a"}); e != api.ErrArg {
		t.Errorf("Reset: %d", e)
	}
	if unlike := sameDisks(d, was); unlike != "" {
		t.Error(unlike)
	}
	tells(t, l, "t", nil, 0, math.MaxInt)
	l.Add("a")
	tells(t, opened(t, d, 20), "t", []string{"a"}, 1, math.MaxInt)
}

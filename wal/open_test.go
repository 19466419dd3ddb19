package wal_test

import (
	"fmt"
	"math"
	"strings"
	"testing"

	"muniment/api"
	"muniment/disk"
	"muniment/wal"
)

// open is a call of Open whose answer is not looked at.
func open(most int) func(*disk.Disk) {
	return func(d *disk.Disk) { wal.Open(d, most) }
}

// refuses holds that Open answers an error, nothing beside it, and does nothing to the disk.
func refuses(t *testing.T, d *disk.Disk, most int, want api.Errno) {
	t.Helper()
	was := d.Clone()
	if l, torn, e := wal.Open(d, most); l != nil || torn != 0 || e != want {
		t.Errorf("Open of most %d: %v, %d, %d, want nothing, 0, %d", most, l, torn, e, want)
	}
	if d == nil {
		return
	}
	if unlike := sameDisks(d, was); unlike != "" {
		t.Errorf("Open of most %d: %s", most, unlike)
	}
}

// Promise 12.1: Open's errors, the one that is named first ahead of the others.
func TestOpenErrors(t *testing.T) {
	bad := with(t, app("base-1", "no frame"), app("w", "loose"))
	dead := bad.Clone()
	dead.Crash(-1, 0)
	for _, most := range []int{0, -1, -20, math.MinInt} {
		refuses(t, nil, most, api.ErrArg)
		refuses(t, disk.New(), most, api.ErrArg)
		refuses(t, dead, most, api.ErrArg)
		refuses(t, bad, most, api.ErrArg)
	}
	refuses(t, nil, 1, api.ErrArg)
	for _, most := range []int{1, 2, 512, math.MaxInt} {
		refuses(t, dead, most, api.ErrDead)
		refuses(t, bad, most, api.ErrForm)
		tells(t, opened(t, disk.New(), most), "", nil, 0, 1)
	}
	empty := disk.New()
	empty.Crash(0, 0)
	refuses(t, empty, 1, api.ErrDead)
}

// Promise 12.1: without a base generation 1 is laid with an empty snapshot; what else begins with base- or seg- goes, unless it is of that generation, all other files stay.
func TestOpenWithoutBase(t *testing.T) {
	lays := []deed{wri("base-1.new", fr("")), syn(), mov("base-1.new", "base-1"), syn()}
	for _, c := range []struct{ names, gone []string }{
		{},
		{names: []string{"w"}},
		{names: []string{"a", "bas-1", "base", "base1", "base.1", "abase-1", "x.base-1", "seg", "seg1-1", "sega", "z", "0", "7"}},
		{names: []string{"base--1"}, gone: []string{"base--1"}},
		{names: []string{"base-0"}, gone: []string{"base-0"}},
		{names: []string{"base-1.new"}},
		{names: []string{"base-2.new"}, gone: []string{"base-2.new"}},
		{names: []string{"base-1.new", "base-10.new", "base-9.new", "w"}, gone: []string{"base-10.new", "base-9.new"}},
		{names: []string{"base-", "base-0", "base--1", "base-x", "base-1x", "base-1.", "base-1-1"}, gone: []string{"base-", "base--1", "base-0", "base-1-1", "base-1.", "base-1x", "base-x"}},
		{names: []string{"base-01", "base-00", "base-1.new.new"}, gone: []string{"base-00", "base-01", "base-1.new.new"}},
		{names: []string{"seg-2-1", "seg-10-1", "seg-11-1", "seg-0-1", "seg-", "seg-1"}, gone: []string{"seg-", "seg-0-1", "seg-1", "seg-10-1", "seg-11-1", "seg-2-1"}},
		{names: []string{"base-99999999999999999999999"}, gone: []string{"base-99999999999999999999999"}},
	} {
		for _, loose := range []bool{false, true} {
			d := disk.New()
			for _, name := range c.names {
				d.Append(name, fr("left", "over"))
			}
			if !loose {
				d.Sync()
			}
			steps := append([]deed{}, lays...)
			for _, name := range c.gone {
				steps = append(steps, rem(name))
			}
			if c.gone != nil {
				steps = append(steps, syn())
			}
			doesSteps(t, d, open(1), steps...)
			l, torn, e := wal.Open(d, 1)
			if torn != 0 || e != api.OK {
				t.Fatalf("Open of %q: torn %d, %d", c.names, torn, e)
			}
			tells(t, l, "", nil, 0, 1)
			doesSteps(t, d, open(1)) // nothing more
		}
	}
}

// Promise 12.1: the greatest base counts, by its number; all of other generations go, base-g.new too, then Sync.
func TestOpenWhichGeneration(t *testing.T) {
	for _, c := range []struct {
		there, gone string
		counts      int
	}{
		{"base-1", "", 1},
		{"base-1 base-2", "base-1", 2},
		{"base-7", "", 7},
		{"base-9 base-10", "base-9", 10},
		{"base-2 base-10 base-9", "base-2 base-9", 10},
		{"base-99 base-100 base-1000", "base-100 base-99", 1000},
		{"base-3 base-3.new", "base-3.new", 3},
		{"base-3 base-4.new base-30.new", "base-30.new base-4.new", 3},
		{"base-3 base-03 base-003x base-4- base-0 base--4 base-", "base- base--4 base-0 base-003x base-03 base-4-", 3},
		{"base-1 base-2 seg-1-1 seg-1-2 seg-3-1 seg-20-1 seg-21-1 seg-2", "base-1 seg-1-1 seg-1-2 seg-2 seg-20-1 seg-21-1 seg-3-1", 2},
		{"base-12 seg-1-2 seg-1-1 seg-121-1", "seg-1-1 seg-1-2 seg-121-1", 12},
		{"base-2147483647 base-2147483648", "base-2147483647", 2147483648},
		{"base-9223372036854775807 base-9223372036854775806", "base-9223372036854775806", math.MaxInt},
		{"base-5 base-99999999999999999999999", "base-99999999999999999999999", 5},
		{"base-1 w a zz bas segs x.seg-1-1 base 7 1-7", "", 1},
	} {
		for _, loose := range []bool{false, true} {
			d := disk.New()
			for _, name := range strings.Fields(c.there) {
				d.Append(name, fr("snap of "+name, "record of "+name))
			}
			if !loose {
				d.Sync()
			}
			var steps []deed
			for _, name := range strings.Fields(c.gone) {
				steps = append(steps, rem(name))
			}
			if steps != nil {
				steps = append(steps, syn())
			}
			doesSteps(t, d, open(20), steps...)
			l, torn, e := wal.Open(d, 20)
			if torn != 0 || e != api.OK {
				t.Fatalf("Open of %q: torn %d, %d", c.there, torn, e)
			}
			base := fmt.Sprintf("base-%d", c.counts)
			tells(t, l, "snap of "+base, []string{"record of " + base}, 0, c.counts)
			doesSteps(t, d, open(20)) // nothing more
		}
	}
}

// Promise 12.1: the base is frames to its end, one at least: a snapshot, and records.
func TestOpenBase(t *testing.T) {
	for _, texts := range [][]string{{""}, {"s"}, {"", ""}, {"", "a", ""}, {"snapshot", "a", "b", "c"}, {strings.Repeat("s", 5000), strings.Repeat("\x00", 300), "\xff"}} {
		d := with(t, wri("base-4", fr(texts...)), app("w", "loose"))
		doesSteps(t, d, open(1))
		l, torn, e := wal.Open(d, 1)
		if torn != 0 || e != api.OK {
			t.Fatalf("Open of %.40q: torn %d, %d", texts, torn, e)
		}
		tells(t, l, texts[0], texts[1:], 0, 4)
	}
}

// Promise 12.1: a base that has no frame, or anything that is no right frame, is ErrForm, even if there is a right one of less; nothing is done.
func TestOpenBaseNotWhole(t *testing.T) {
	whole := fr("snap", "a", "", "bcd")
	bad := []string{"", "x", whole + "x", whole + fr("")[:7], whole + "\x00", "x" + whole, whole[1:]}
	ends := map[int]bool{len(fr("snap")): true, len(fr("snap", "a")): true, len(fr("snap", "a", "")): true}
	for n := range len(whole) {
		if !ends[n] {
			bad = append(bad, whole[:n])
		}
		for _, by := range []byte{1, 0x80, 0xff} {
			bad = append(bad, whole[:n]+string([]byte{whole[n] ^ by})+whole[n+1:])
		}
	}
	for _, s := range bad {
		for _, beside := range [][]deed{
			nil,
			{wri("base-1", fr("right"))},
			{wri("seg-2-1", fr("a")), wri("base-2.new", fr("right")), wri("base-3.new", fr("right"))},
			{wri("seg-2-1", "torn"), wri("seg-2-2", "torn"), wri("seg-1-1", "of others")},
		} {
			refuses(t, with(t, append(beside, wri("base-2", s), app("w", "loose"))...), 20, api.ErrForm)
		}
	}
	for n := range ends { // cut behind a frame it is whole
		texts, _ := unfr(whole[:n])
		tells(t, opened(t, with(t, wri("base-2", whole[:n])), 20), "snap", texts[1:], 0, 2)
	}
}

// segmented is a disk that has a base of generation 3, with one record, and segments of that generation.
func segmented(t *testing.T, segments ...string) *disk.Disk {
	t.Helper()
	d := with(t, wri("base-3", fr("snap", "laid")))
	for i, s := range segments {
		d.Append(fmt.Sprintf("seg-3-%d", i+1), s)
	}
	d.Sync()
	d.Append("w", "loose")
	return d
}

// Promise 12.1: the records of the base, and those of its segments, by their numbers; some may have no bytes.
func TestOpenSegments(t *testing.T) {
	for _, c := range [][]string{
		{fr("a")},
		{fr("a", "b")},
		{fr("a", "", "b"), fr("c"), fr("", "")},
		{""},
		{"", ""},
		{"", fr("a"), "", "", fr("b"), ""},
		{fr("a", "a", "a"), fr("a"), fr("a")},
	} {
		d := segmented(t, c...)
		all, _ := unfr(strings.Join(c, ""))
		doesSteps(t, d, open(5))
		l, torn, e := wal.Open(d, 5)
		if torn != 0 || e != api.OK {
			t.Fatalf("Open of %q: torn %d, %d", c, torn, e)
		}
		tells(t, l, "snap", append([]string{"laid"}, all...), len(c), 3)
	}
}

// Promise 12.1: segments of more than nine, and of more than ninety-nine, come by their numbers, not by their names.
func TestOpenManySegments(t *testing.T) {
	for _, many := range []int{9, 10, 11, 20, 101, 120} {
		var segments []string
		all := []string{"laid"}
		for n := range many {
			segments = append(segments, fr(fmt.Sprint("a", n), fmt.Sprint("b", n)))
			all = append(all, fmt.Sprint("a", n), fmt.Sprint("b", n))
		}
		l, torn, e := wal.Open(segmented(t, segments...), 5)
		if torn != 0 || e != api.OK {
			t.Fatalf("Open of %d segments: torn %d, %d", many, torn, e)
		}
		tells(t, l, "snap", all, many, 3)
		// The last one is torn: all others stay; the first one is: all others go, the last one first.
		d := segmented(t, append(segments[:many-1:many-1], fr("x")+"12345")...)
		doesSteps(t, d, open(5), cut(fmt.Sprintf("seg-3-%d", many), len(fr("x"))), syn())
		if many > 20 {
			continue
		}
		var steps []deed
		for n := many; n > 1; n-- {
			steps = append(steps, rem(fmt.Sprintf("seg-3-%d", n)), syn())
		}
		doesSteps(t, segmented(t, append([]string{"12345"}, segments[1:]...)...), open(5), append(steps, cut("seg-3-1", 0), syn())...)
	}
}

// Promise 12.1: segments come from the first on; where one is missing those behind it do not count.
func TestOpenMissingSegments(t *testing.T) {
	for _, c := range []struct {
		missing []int
		counts  int
	}{{[]int{1}, 0}, {[]int{2}, 1}, {[]int{3}, 2}, {[]int{5}, 4}, {[]int{2, 3}, 1}, {[]int{1, 5}, 0}, {[]int{4, 2}, 1}} {
		d := segmented(t, fr("1"), fr("2", "2"), fr("3"), fr("4"), fr("5"))
		for _, n := range c.missing {
			d.Remove(fmt.Sprintf("seg-3-%d", n))
		}
		doesSteps(t, d, open(5))
		l, torn, e := wal.Open(d, 5)
		if torn != 0 || e != api.OK {
			t.Fatalf("Open without %v: torn %d, %d", c.missing, torn, e)
		}
		all := [][]string{{"laid"}, {"laid", "1"}, {"laid", "1", "2", "2"}, {"laid", "1", "2", "2", "3"}, {"laid", "1", "2", "2", "3", "4"}}
		tells(t, l, "snap", all[c.counts], c.counts, 3)
	}
}

// damaged is each way in which a segment of frames may be not whole: what it is, and how much of it is right.
func damaged(texts ...string) map[string]int {
	out := map[string]int{}
	whole := fr(texts...)
	ends := []int{0}
	for i := range texts {
		ends = append(ends, len(fr(texts[:i+1]...)))
	}
	end := 0
	for n := range len(whole) {
		if n == ends[end+1] {
			end++
		}
		if n != ends[end] {
			out[whole[:n]] = ends[end]
		}
		for _, by := range []byte{1, 0x80, 0xff} {
			out[whole[:n]+string([]byte{whole[n] ^ by})+whole[n+1:]] = ends[end]
		}
	}
	for _, more := range []string{"x", "1234567", "12345678", fr("")[:7], "\x00\x00\x00\x00\x00\x00\x00\x00", "\xff\xff\xff\xff1234abc"} {
		out[whole+more] = len(whole)
	}
	return out
}

// Promise 12.1: in the first segment, in one between, or in the last one a frame may be cut at each byte, or have a byte changed: the segments behind it go, the last one first, with a Sync behind each, then it is cut there, Sync; those ahead stay.
func TestOpenTorn(t *testing.T) {
	texts := []string{"ab", "", "cde"}
	for s, right := range damaged(texts...) {
		for place := range 4 {
			segments := []string{fr("0"), fr("1", "1"), "", fr("3")}
			all := append([]string{"laid"}, []string{"0", "1", "1"}[:[]int{0, 1, 3, 3}[place]]...)
			torn := len(s) - right
			var steps []deed
			for n := 3; n > place; n-- {
				steps = append(steps, rem(fmt.Sprintf("seg-3-%d", n+1)), syn())
				torn += len(segments[n])
			}
			steps = append(steps, cut(fmt.Sprintf("seg-3-%d", place+1), right), syn())
			segments[place] = s
			d := segmented(t, segments...)
			if len(s)%5 == 0 {
				doesSteps(t, d, open(5), steps...)
			}
			want := d.Clone()
			run(want, steps)
			l, got, e := wal.Open(d, 5)
			if got != torn || e != api.OK {
				t.Fatalf("Open with %q at %d: torn %d, want %d; %d", s, place, got, torn, e)
			}
			if unlike := sameDisks(d, want); unlike != "" {
				t.Fatalf("Open with %q at %d: %s", s, place, unlike)
			}
			some, _ := unfr(s[:right])
			tells(t, l, "snap", append(all, some...), place+1, 3)
			doesSteps(t, d, open(5)) // nothing more
		}
	}
}

// Promise 12.1: the first frame that is not right counts, be there others behind it; what is torn goes ahead of files of other generations.
func TestOpenTornAndOthers(t *testing.T) {
	d := segmented(t, fr("1"), fr("2")+"torn"+fr("2"), fr("3"), "torn", "")
	for _, name := range []string{"base-1", "base-2", "base-3.new", "base-4.new", "seg-1-1", "seg-2-1", "seg-30-1"} {
		d.Write(name, fr("of others"))
	}
	steps := []deed{
		rem("seg-3-5"), syn(), rem("seg-3-4"), syn(), rem("seg-3-3"), syn(), cut("seg-3-2", len(fr("2"))), syn(),
		rem("base-1"), rem("base-2"), rem("base-3.new"), rem("base-4.new"), rem("seg-1-1"), rem("seg-2-1"), rem("seg-30-1"), syn(),
	}
	doesSteps(t, d, open(100), steps...)
	l, torn, e := wal.Open(d, 100)
	if want := 4 + len(fr("2")) + len(fr("3")) + 4; torn != want || e != api.OK {
		t.Fatalf("torn %d, want %d; %d", torn, want, e)
	}
	tells(t, l, "snap", []string{"laid", "1", "2"}, 2, 3)
	if got := strings.Join(d.Names(), " "); got != "base-3 seg-3-1 seg-3-2 w" {
		t.Error(got)
	}
}

// Promise 12.1: a segment behind the torn one goes, even if one is missing between them.
func TestOpenTornAndMissing(t *testing.T) {
	d := segmented(t, fr("1")+"torn", fr("2"), fr("3"), fr("4"))
	d.Remove("seg-3-2")
	d.Sync()
	doesSteps(t, d, open(5), rem("seg-3-4"), syn(), rem("seg-3-3"), syn(), cut("seg-3-1", len(fr("1"))), syn())
	l, torn, e := wal.Open(d, 5)
	if want := 4 + len(fr("3")) + len(fr("4")); torn != want || e != api.OK {
		t.Errorf("torn %d, want %d; %d", torn, want, e)
	}
	tells(t, l, "snap", []string{"laid", "1"}, 1, 3)
}

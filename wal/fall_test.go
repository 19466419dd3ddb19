package wal_test

import (
	"fmt"
	"slices"
	"testing"

	"muniment/api"
	"muniment/disk"
	"muniment/wal"
)

// pair is a log, and one by the words, each on a disk of its own.
type pair struct {
	d, e *disk.Disk
	l    *wal.Log
	p    *plain
}

// opens opens both, and holds what they answer against each other.
func (c *pair) opens(t *testing.T, most int) api.Errno {
	t.Helper()
	l, torn, err := wal.Open(c.d, most)
	p, words, want := plainOpen(c.e, most)
	if err != want || torn != words || (l == nil) != (p == nil) {
		t.Fatalf("Open: %d, torn %d, want %d, torn %d", err, torn, want, words)
	}
	c.l, c.p = l, p
	c.holds(t)
	return err
}

// does calls both, and holds what they answer against each other.
func (c *pair) does(t *testing.T, call func(log) api.Errno) api.Errno {
	t.Helper()
	e, want := call(c.l), call(c.p)
	if e != want {
		t.Fatalf("%d, want %d", e, want)
	}
	c.holds(t)
	return e
}

// holds holds that the disks are the same, and the logs, if they are open.
func (c *pair) holds(t *testing.T) {
	t.Helper()
	if unlike := sameDisks(c.d, c.e); unlike != "" {
		t.Fatal(unlike)
	}
	if c.l != nil && told(c.l) != told(c.p) {
		t.Fatalf("%s; want %s", told(c.l), told(c.p))
	}
}

// both does something to both disks.
func (c *pair) both(do func(*disk.Disk)) {
	do(c.d)
	do(c.e)
}

// up gives both disks power.
func (c *pair) up() { c.both(func(d *disk.Disk) { d.Up() }) }

// plans plans a loss of power so many changes from now on.
func (c *pair) plans(k, keep, torn int) {
	c.both(func(d *disk.Disk) { d.Plan([]api.Fall{{At: d.Changes() + k, Keep: keep, Torn: torn}}) })
}

// content is what a log is about: its snapshot, and its records.
func content(l log) string { return fmt.Sprintf("%q %q", l.Snap(), l.All()) }

// what is such a content.
func what(snap string, records ...string) string { return fmt.Sprintf("%q %q", snap, records) }

// action is a call, of a log that is opened on a disk, and what may be there behind a loss of power within it.
type action struct {
	name    string
	start   []deed
	do      func(log) api.Errno // none: opening alone
	changes int                 // of opening and it
	may     []string
}

// actions is openings and calls of each kind.
func actions() []action {
	add := func(records ...string) func(log) api.Errno {
		return func(l log) api.Errno { return l.Add(records...) }
	}
	reset := func(snap string, records ...string) func(log) api.Errno {
		return func(l log) api.Errno { return l.Reset(snap, records) }
	}
	laid := []deed{wri("base-1", fr("s", "a")), syn()}
	long := append(laid[:1:1], wri("seg-1-1", fr("b", "c")), wri("seg-1-2", fr("d", "e")), syn())
	torn := append(laid[:1:1], wri("seg-1-1", fr("b")), wri("seg-1-2", fr("c")+"1234"), wri("seg-1-3", fr("x")), wri("seg-1-4", fr("y")), syn())
	others := append(torn[:4:4], wri("base-9", fr("t", "u")), wri("seg-9-1", fr("v")+"torn"), wri("base-10.new", fr("no")), syn())
	return []action{
		{"the first opening", nil, nil, 2, []string{what("")}},
		{"the first opening, with others", []deed{wri("base-2.new", fr("x")), wri("seg-2-1", fr("x")), syn()}, nil, 4, []string{what("")}},
		{"an opening", long, nil, 0, []string{what("s", "a", "b", "c", "d", "e")}},
		{"an opening with torn ones", torn, nil, 3, []string{what("s", "a", "b", "c")}},
		{"an opening with torn ones and others", others, nil, 6, []string{what("t", "u", "v")}},
		{"the first Add", laid, add("b", "c"), 1, []string{what("s", "a"), what("s", "a", "b", "c")}},
		{"Add in a segment", append(laid[:1:1], wri("seg-1-1", fr("b")), syn()), add("c"), 1, []string{what("s", "a", "b"), what("s", "a", "b", "c")}},
		{"Add in the next segment", long, add("f", "g"), 1, []string{what("s", "a", "b", "c", "d", "e"), what("s", "a", "b", "c", "d", "e", "f", "g")}},
		{"Add of none", laid, add(), 1, []string{what("s", "a")}},
		{"Reset", laid, reset("t"), 3, []string{what("s", "a"), what("t")}},
		{"Reset with records", long, reset("t", "x", "y"), 5, []string{what("s", "a", "b", "c", "d", "e"), what("t", "x", "y")}},
		{"Reset behind torn ones", torn, reset("t", "x"), 8, []string{what("s", "a", "b", "c"), what("t", "x")}},
	}
}

// starts is a pair on the disk of an action.
func (a action) starts(t *testing.T) *pair {
	d := with(t, a.start...)
	return &pair{d: d, e: d.Clone()}
}

// acts opens, and does the call: the first error.
func (a action) acts(t *testing.T, c *pair) api.Errno {
	t.Helper()
	if e := c.opens(t, 15); e != api.OK || a.do == nil {
		return e
	}
	return c.does(t, a.do)
}

// Promise 12.2: at each change of Open, Add and Reset the power fails, with each file kept or not, and torn; then again within the next opening: behind it there is what was there ahead, or what was laid or added, with all that was told.
func TestFalls(t *testing.T) {
	for _, a := range actions() {
		for k := range a.changes + 1 {
			for _, keep := range keeps {
				c := a.starts(t)
				c.plans(k, keep, 3)
				e := a.acts(t, c)
				if want := k < a.changes; (e == api.ErrDead) != want || (e == api.OK) == want {
					t.Fatalf("%s, %d: %d", a.name, k, e)
				}
				if e == api.OK && content(c.l) != a.may[len(a.may)-1] {
					t.Fatalf("%s: %s", a.name, content(c.l))
				}
				c.up()
				may := a.may
				if e == api.OK {
					may = may[len(may)-1:]
				}
				fallsAgain(t, c, may, fmt.Sprintf("%s, %d, keep %b", a.name, k, keep))
			}
		}
	}
}

// fallsAgain opens disks with a loss of power at each change of the opening, and then without, till there is one of some contents.
func fallsAgain(t *testing.T, c *pair, may []string, name string) {
	t.Helper()
	for k, struck := 0, true; struck; k++ {
		struck = false
		for _, keep := range keeps {
			again := &pair{d: c.d.Clone(), e: c.e.Clone()}
			again.plans(k, keep, 3)
			e := again.opens(t, 15)
			again.both(func(d *disk.Disk) { d.Plan(nil) })
			if e == api.ErrDead {
				struck = true
				again.up()
				e = again.opens(t, 15)
			}
			if e != api.OK {
				t.Fatalf("%s: %d", name, e)
			}
			if got := content(again.l); !slices.Contains(may, got) {
				t.Fatalf("%s, again at %d, keep %b: %s, want one of %q", name, k, keep, got, may)
			}
			if e := again.does(t, func(l log) api.Errno { return l.Add("behind") }); e != api.OK {
				t.Fatalf("%s: Add: %d", name, e)
			}
			was := content(again.l)
			again.both(func(d *disk.Disk) { d.Crash(0, 0) })
			again.up()
			if e := again.opens(t, 15); e != api.OK || content(again.l) != was {
				t.Fatalf("%s: %d, %s, was %s", name, e, content(again.l), was)
			}
		}
	}
}

// Promise 12.1: with an error of the disk nothing is changed in the log; of Reset: unless the generation is laid. It goes on when there is power again.
func TestFallsChangeNothing(t *testing.T) {
	for _, keep := range keeps {
		for k := range 6 {
			d := with(t, wri("base-1", fr("s", "a")), wri("seg-1-1", fr("b", "c")), wri("seg-1-2", fr("d")), syn())
			l := opened(t, d, 15)
			d.Plan([]api.Fall{{At: d.Changes(), Keep: keep}})
			if e := l.Add("lost"); e != api.ErrDead {
				t.Fatalf("Add: %d", e)
			}
			tells(t, l, "s", []string{"a", "b", "c", "d"}, 2, 1)
			if e := l.Add("lost"); e != api.ErrDead { // it is dead
				t.Fatalf("Add: %d", e)
			}
			if e := l.Reset("lost", []string{"lost"}); e != api.ErrDead {
				t.Fatalf("Reset: %d", e)
			}
			tells(t, l, "s", []string{"a", "b", "c", "d"}, 2, 1)
			d.Up()
			d.Plan([]api.Fall{{At: d.Changes() + k, Keep: keep}})
			e := l.Reset("t", []string{"x"})
			switch {
			case k < 2: // of the Write, of the Move
				tells(t, l, "s", []string{"a", "b", "c", "d"}, 2, 1)
			default:
				tells(t, l, "t", []string{"x"}, 0, 2)
			}
			if want := k < 5; (e == api.ErrDead) != want || (e == api.OK) == want {
				t.Fatalf("Reset at %d: %d", k, e)
			}
			d.Up()
			d.Plan(nil)
			if e := l.Add("e"); e != api.OK {
				t.Fatalf("Add: %d", e)
			}
			want := told(l)
			if got := told(opened(t, d.Clone(), 15)); got != want {
				t.Errorf("Reset at %d, keep %b: %s, want %s", k, keep, got, want)
			}
			g := l.Generation()
			if e := l.Reset("u", nil); e != api.OK {
				t.Fatalf("Reset: %d", e)
			}
			tells(t, l, "u", nil, 0, g+1)
			if len(d.Names()) != 1 {
				t.Errorf("%q", d.Names())
			}
		}
	}
}

// Promise 12.2: the power fails between a change and its Sync, with each file kept or not, and torn at each byte.
func TestFallsAheadOfSync(t *testing.T) {
	start := []deed{wri("base-1", fr("s", "a")), wri("seg-1-1", fr("b")), syn()}
	fresh, more := fr("t", "x"), fr("c", "", "d")
	added := []string{what("s", "a", "b"), what("s", "a", "b", "c"), what("s", "a", "b", "c", ""), what("s", "a", "b", "c", "", "d")}
	for _, c := range []struct {
		name  string
		loose []deed
		may   []string
	}{
		{"Add in a segment", []deed{app("seg-1-1", more)}, added},
		{"Add in the next segment", []deed{app("seg-1-2", more)}, added},
		{"Reset's Write", []deed{wri("base-2.new", fresh)}, added[:1]},
		{"Reset's Move", []deed{wri("base-2.new", fresh), syn(), mov("base-2.new", "base-2")}, []string{added[0], what("t", "x")}},
		{"Reset's Removes", append(laying(nil, 2, "t", []string{"x"}), rem("base-1"), rem("seg-1-1")), []string{what("t", "x")}},
	} {
		for _, keep := range keeps {
			for torn := range 100 {
				d := with(t, append(start, c.loose...)...)
				d.Crash(keep, torn)
				d.Up()
				l, _, e := wal.Open(d, 15)
				if e != api.OK || !slices.Contains(c.may, content(l)) {
					t.Fatalf("%s, keep %b, torn %d: %d, %s, want one of %q", c.name, keep, torn, e, content(l), c.may)
				}
				if d.Loose() != 0 {
					t.Errorf("%s, keep %b, torn %d: %d loose", c.name, keep, torn, d.Loose())
				}
				l.Add("behind")
				if got := content(opened(t, d, 15)); got != content(l) {
					t.Fatalf("%s, keep %b, torn %d: %s, then %s", c.name, keep, torn, content(l), got)
				}
			}
		}
	}
}

package disk_test

import (
	"math"
	"strings"
	"testing"

	"muniment/api"
)

// Promise 11.1: Append lays bytes behind a file's, or makes it come.
func TestAppend(t *testing.T) {
	d, p := both(t, app("a", "x"), app("a", "yz"), app("b", "1"), app("a", ""), app("c", ""), app("c", "\x00\xff"), syn(), app("a", "w"))
	for name, want := range map[string]string{"a": "xyzw", "b": "1", "c": "\x00\xff"} {
		if s, e := d.Read(name); s != want || e != api.OK {
			t.Errorf("%s: %q, %d, want %q", name, s, e, want)
		}
	}
	p.holds(t, d)
}

// Promise 11.1: Write lays bytes in the place of a file's, or makes it come.
func TestWrite(t *testing.T) {
	d, p := both(t, wri("a", "xyz"), wri("b", "1"), wri("a", "w"), wri("c", ""), wri("b", "12345"), wri("d", "1"), syn(), wri("d", ""))
	for name, want := range map[string]string{"a": "w", "b": "12345", "c": "", "d": ""} {
		if s, e := d.Read(name); s != want || e != api.OK {
			t.Errorf("%s: %q, %d, want %q", name, s, e, want)
		}
	}
	p.holds(t, d)
}

// Promise 11.1: Append and Write of nothing make an empty file come that is not there, and are changes.
func TestOfNothing(t *testing.T) {
	for _, o := range []deed{app("b", ""), wri("b", "")} {
		d, p := both(t, app("a", "x"), syn())
		d.Room(0)
		p.room = 0
		done(t, d, p, o)
		if s, e := d.Read("b"); s != "" || e != api.OK || d.Changes() != 2 || d.Loose() != 1 {
			t.Errorf("%v: %q, %d, %d changes, %d loose", o, s, e, d.Changes(), d.Loose())
		}
	}
	d, p := both(t, app("a", "x"), syn(), app("a", ""))
	if s, _ := d.Read("a"); s != "x" || d.Loose() != 0 || d.Changes() != 2 {
		t.Errorf("%q, %d loose, %d changes", s, d.Loose(), d.Changes())
	}
	done(t, d, p, wri("a", ""))
	if s, e := d.Read("a"); s != "" || e != api.OK || d.Loose() != 1 || d.Changes() != 3 {
		t.Errorf("%q, %d, %d loose, %d changes", s, e, d.Loose(), d.Changes())
	}
}

// Promise 11.1: Move to a name that nobody has, and to one that is there, sure or not.
func TestMove(t *testing.T) {
	long := strings.Repeat("z", api.MaxName)
	for _, to := range []string{"b", "c", "e", "0", long} {
		d, p := both(t, app("a", "x"), app("b", "y1"), app("e", ""), syn(), app("c", "new"))
		done(t, d, p, mov("a", to))
		if s, e := d.Read(to); s != "x" || e != api.OK {
			t.Errorf("to %s: %q, %d", to, s, e)
		}
		if _, e := d.Read("a"); e != api.ErrNone {
			t.Errorf("to %s: a is there: %d", to, e)
		}
		gets(t, d, p, mov("a", to), api.ErrNone)
		done(t, d, p, mov(to, "a"), syn(), mov("a", to), app("a", "another"))
	}
}

// Promise 11.1: the errors of Move, and which comes first.
func TestMoveOfWhatMayNotBe(t *testing.T) {
	for _, wrong := range wrongNames() {
		d, p := both(t, app("a", "x"), syn(), app("b", "y"))
		gets(t, d, p, mov("a", wrong), api.ErrName)
		gets(t, d, p, mov("none", wrong), api.ErrNone) // ahead of what it should be named
		gets(t, d, p, mov(wrong, "a"), api.ErrName)
		gets(t, d, p, mov(wrong, wrong), api.ErrName)
		gets(t, d, p, mov(wrong, "none"), api.ErrName)
	}
	d, p := both(t, app("a", "x"), syn(), app("b", "y"), app("c", "z"), rem("c"))
	gets(t, d, p, mov("a", "a"), api.ErrArg)
	gets(t, d, p, mov("b", "b"), api.ErrArg)
	gets(t, d, p, mov("none", "none"), api.ErrNone)
	gets(t, d, p, mov("none", "a"), api.ErrNone)
	gets(t, d, p, mov("c", "c"), api.ErrNone)
	if d.Changes() != 4 {
		t.Error(d.Changes())
	}
}

// Promise 11.1: Remove, and that what is gone may come again.
func TestRemove(t *testing.T) {
	d, p := both(t, app("a", "x"), syn(), app("b", "y"), rem("a"), rem("b"))
	for _, name := range []string{"a", "b", "none"} {
		gets(t, d, p, rem(name), api.ErrNone)
		gets(t, d, p, cut(name, 0), api.ErrNone)
		gets(t, d, p, mov(name, "c"), api.ErrNone)
	}
	done(t, d, p, app("a", "1"), wri("b", "2"), rem("a"), syn(), app("a", "3"))
	if s, _ := d.Read("a"); s != "3" {
		t.Errorf("%q", s)
	}
}

// Promise 11.1: Truncate below 0, at 0, within, at the length and above it.
func TestTruncate(t *testing.T) {
	const all = "12345"
	for _, s := range []string{"", "1", all} {
		for _, n := range []int{math.MinInt, -1 << 31, -2, -1, 0, 1, 2, 3, 4, 5, 6, 7, 1 << 31, math.MaxInt} {
			d, p := both(t, app("a", s), syn(), app("b", all+all))
			want := api.OK
			if n < 0 || n > len(s) {
				want = api.ErrArg
			}
			gets(t, d, p, cut("a", n), want)
			if got, e := d.Read("a"); want == api.OK && (got != s[:n] || e != api.OK) {
				t.Errorf("%q to %d: %q, %d", s, n, got, e)
			}
			gets(t, d, p, cut("none", n), api.ErrNone)
			gets(t, d, p, cut("A", n), api.ErrName)
		}
	}
}

// Promise 11.1: each change with a name that may not be, and with one that is not there.
func TestChangesOfWrongNames(t *testing.T) {
	d, p := both(t, app("a", "x"), syn(), app("b", "y"))
	d.Room(0) // ErrName comes ahead of ErrFull
	p.room = 0
	for _, wrong := range wrongNames() {
		for _, o := range append(changes(wrong), mov(wrong, wrong), cut(wrong, -1), cut(wrong, 9), app(wrong, ""), wri(wrong, "")) {
			gets(t, d, p, o, api.ErrName)
		}
	}
	for _, o := range append(changes("none"), mov("none", ""), mov("none", "none"), cut("none", -1), cut("none", 9)) {
		want := api.ErrFull
		if o.needsFile() {
			want = api.ErrNone
		}
		gets(t, d, p, o, want)
	}
}

// Promise 11.1: each change on a dead disk is ErrDead, ahead of all other errors.
func TestChangesOfADeadDisk(t *testing.T) {
	d, p := both(t, app("a", "x"), syn(), app("b", "y"))
	d.Crash(0, 0)
	p.crash(0, 0)
	d.Room(0)
	p.room = 0
	d.Plan([]api.Fall{{At: 2}})
	p.lay(api.Fall{At: 2})
	for _, name := range append(wrongNames(), "a", "b", "none") {
		for _, o := range append(changes(name), mov(name, ""), mov(name, name), cut(name, -1), cut(name, 9), app(name, ""), syn()) {
			gets(t, d, p, o, api.ErrDead)
		}
	}
	d.Up()
	p.up()
	gets(t, d, p, rem("a"), api.ErrDead) // the fall had not struck
}

// Promise 11.1: Sync makes each kind of change sure, that a file is gone too; it is no change.
func TestSync(t *testing.T) {
	for _, l := range [][]deed{{}, {app("a", "2")}, {app("new", "")}, {wri("a", "2")}, {wri("new", "3")}, {cut("a", 0)}, {cut("a", 1)},
		{rem("a")}, {app("new", "1"), rem("new")}, {mov("a", "new")}, {mov("a", "b")}, {mov("a", "c"), rem("b"), wri("a", "1")}, changes("a")[:2]} {
		d, p := both(t, app("a", "xy"), app("b", "z"), syn())
		done(t, d, p, l...)
		was, many := files(t, d), d.Changes()
		done(t, d, p, syn())
		if d.Loose() != 0 || d.Changes() != many {
			t.Errorf("%v: %d loose, %d changes, were %d", l, d.Loose(), d.Changes(), many)
		}
		d.Crash(0, 1)
		d.Up()
		if got := files(t, d); len(got) != len(was) || d.Used() != p.used() {
			t.Errorf("%v: %q, was %q", l, got, was)
		}
		for name, s := range was {
			if got, e := d.Read(name); got != s || e != api.OK {
				t.Errorf("%v: %s: %q, %d, was %q", l, name, got, e, s)
			}
		}
	}
}

// Promise 11.2: Loose ahead of a change and behind it, and where a file is again as it was sure to be.
func TestLoose(t *testing.T) {
	for _, x := range []struct {
		l    []deed
		many int
	}{
		{nil, 0},
		{[]deed{app("a", "1")}, 1},
		{[]deed{app("a", "")}, 0},
		{[]deed{app("a", "1"), app("a", "2"), app("b", "3")}, 2},
		{[]deed{app("a", "1"), cut("a", 2)}, 0},
		{[]deed{cut("a", 2)}, 0},
		{[]deed{cut("a", 1)}, 1},
		{[]deed{cut("a", 1), app("a", "y")}, 0},
		{[]deed{wri("a", "xy")}, 0},
		{[]deed{wri("a", "xz"), wri("a", "xy")}, 0},
		{[]deed{rem("a")}, 1},
		{[]deed{rem("a"), app("a", "xy")}, 0},
		{[]deed{rem("empty")}, 1}, // an empty file is another thing than none
		{[]deed{rem("empty"), wri("empty", "")}, 0},
		{[]deed{app("new", "")}, 1},
		{[]deed{app("new", ""), rem("new")}, 0},
		{[]deed{mov("a", "new")}, 2},
		{[]deed{mov("a", "b")}, 2},
		{[]deed{mov("a", "same")}, 1},
		{[]deed{mov("a", "new"), mov("new", "a")}, 0},
		{[]deed{app("new", "1"), mov("new", "other")}, 1},
		{[]deed{rem("a"), rem("b"), rem("empty"), rem("same"), app("new", "1")}, 5},
		{[]deed{rem("a"), rem("b"), syn()}, 0},
		{[]deed{rem("a"), syn(), app("a", "xy")}, 1},
	} {
		d, p := both(t, app("a", "xy"), app("b", "z"), wri("empty", ""), wri("same", "xy"), syn())
		done(t, d, p, x.l...)
		if d.Loose() != x.many {
			t.Errorf("%v: %d, want %d", x.l, d.Loose(), x.many)
		}
		d.Crash(1, 1)
		if d.Loose() != 0 {
			t.Errorf("%v: %d behind a loss of power", x.l, d.Loose())
		}
		d.Up()
		if d.Loose() != 0 {
			t.Errorf("%v: %d behind it", x.l, d.Loose())
		}
	}
}

// Promise 11.2: which calls count as changes, and that one that is refused does not.
func TestChanges(t *testing.T) {
	d, p := both(t)
	many := 0
	for _, o := range []deed{app("a", "1"), app("a", ""), wri("a", ""), wri("b", "2"), cut("b", 1), cut("b", 0), mov("b", "c"), mov("c", "a"), rem("a"), app("a", "3")} {
		done(t, d, p, o)
		many++
		if d.Changes() != many {
			t.Errorf("%v: %d, want %d", o, d.Changes(), many)
		}
		for range 2 {
			done(t, d, p, syn())
		}
		d.Room(0)
		p.room = 0
		for _, no := range []deed{app("A", ""), wri("a", "1234"), app("none", "1"), mov("none", "a"), mov("a", "a"), mov("a", ""), rem("none"), cut("none", 0), cut("a", -1), cut("a", 9)} {
			if e := no.on(d); e == api.OK || d.Changes() != many {
				t.Errorf("%v: %d, %d changes, want %d", no, e, d.Changes(), many)
			}
		}
		d.Room(-1)
		p.room = -1
		d.Crash(many, many)
		p.crash(many, many)
		if e := app("a", "1").on(d); e != api.ErrDead || d.Changes() != many {
			t.Errorf("%d, %d changes, want %d", e, d.Changes(), many)
		}
		d.Up()
		p.up()
		p.holds(t, d)
	}
}

package disk_test

import (
	"maps"
	"math"
	"slices"
	"testing"

	"muniment/api"
	"muniment/disk"
)

// laid lays a plan, of a disk and by the words.
func laid(t *testing.T, d *disk.Disk, p *plain, l ...api.Fall) {
	t.Helper()
	d.Plan(l)
	p.lay(l...)
	p.holds(t, d)
}

// strikes does a change at which a fall strikes, and gives power again.
func strikes(t *testing.T, d *disk.Disk, p *plain, o deed) {
	t.Helper()
	many := d.Changes()
	gets(t, d, p, o, api.ErrDead)
	if !d.Dead() || d.Changes() != many {
		t.Errorf("%v: Dead %t, %d changes, were %d", o, d.Dead(), d.Changes(), many)
	}
	if !d.Up() || !p.up() {
		t.Errorf("%v: it was not dead", o)
	}
	p.holds(t, d)
}

// Promise 11.2: a fall strikes ahead of the change with its number, of each kind, and leaves what it says.
func TestPlan(t *testing.T) {
	for _, o := range []deed{app("a", "x"), app("new", ""), wri("a", "x"), wri("new", "x"), mov("a", "b"), mov("a", "new"), rem("a"), cut("a", 0), cut("a", 3)} {
		for _, f := range []api.Fall{{}, {Keep: 1}, {Keep: 2}, {Keep: -1}, {Torn: 1}, {Torn: 2, Keep: 1}, {Torn: 9}} {
			d, p := both(t, app("a", "12"), app("b", "34"), syn(), app("a", "3"), wri("c", "56"))
			f.At = 4
			laid(t, d, p, f)
			c := d.Clone()
			strikes(t, d, p, o)
			c.Crash(f.Keep, f.Torn) // ahead of the change: nothing of it is there
			c.Up()
			if got, want := files(t, d), files(t, c); !maps.Equal(got, want) {
				t.Errorf("%v, %v: %q, want %q", o, f, got, want)
			}
			done(t, d, p, wri("a", "0123"), cut("a", 2), mov("a", "b"), rem("b")) // it strikes once
		}
	}
}

// Promise 11.2: a fall at a later change strikes at that one, at each of those ahead nothing does.
func TestPlanOfLaterChanges(t *testing.T) {
	for ahead := range 6 {
		for at := range 6 {
			d, p := both(t)
			for range ahead {
				done(t, d, p, app("a", "x"))
			}
			laid(t, d, p, api.Fall{At: ahead + at, Keep: 1})
			for range at {
				done(t, d, p, app("a", "y"), syn())
			}
			strikes(t, d, p, app("a", "z"))
			for range 10 {
				done(t, d, p, app("a", "w"))
			}
		}
	}
}

// Promise 11.2: a fall at a change that was already, or that never comes, does not strike.
func TestPlanOfWhatWas(t *testing.T) {
	d, p := both(t, app("a", "1"), app("a", "2"), app("a", "3"))
	laid(t, d, p, api.Fall{At: 2}, api.Fall{At: 1}, api.Fall{At: 0}, api.Fall{At: -1}, api.Fall{At: math.MinInt}, api.Fall{At: math.MaxInt})
	for range 20 {
		done(t, d, p, app("a", "x"), cut("a", 1))
	}
	crash(t, d, p, 0, 0)
	done(t, d, p, app("a", "x"))
}

// Promise 11.2: of several at one change the first of the plan strikes; each strikes once, the next one when the change is tried again.
func TestPlanOfSeveralAtOneChange(t *testing.T) {
	d, p := both(t, app("a", "A"), syn())
	laid(t, d, p, api.Fall{At: 3, Keep: 1}, api.Fall{At: 2, Keep: 0, Torn: 2}, api.Fall{At: 7}, api.Fall{At: 2, Keep: 1}, api.Fall{At: 3, Keep: 0}, api.Fall{At: 2})
	done(t, d, p, app("a", "123"))
	strikes(t, d, p, rem("a"))
	if s, _ := d.Read("a"); s != "A1" {
		t.Errorf("the first: %q", s)
	}
	strikes(t, d, p, rem("a"))
	strikes(t, d, p, app("a", "1"))
	if s, _ := d.Read("a"); s != "A1" || d.Changes() != 2 {
		t.Errorf("the others: %q, %d changes", s, d.Changes())
	}
	done(t, d, p, app("a", "2"))
	strikes(t, d, p, cut("a", 0))
	if s, _ := d.Read("a"); s != "A12" {
		t.Errorf("the one at 3: %q", s)
	}
	strikes(t, d, p, cut("a", 0))
	done(t, d, p, cut("a", 0), app("a", "4"), app("a", "5"), app("a", "6"))
	strikes(t, d, p, app("a", "7"))
	done(t, d, p, app("a", "7"), app("a", "8"))
}

// Promise 11.2: calls that are refused, Sync and those that change nothing at all are not struck, and do not count.
func TestPlanAndWhatDoesNotCount(t *testing.T) {
	d, p := both(t, app("a", "12"), syn(), app("b", "3"))
	laid(t, d, p, api.Fall{At: 2})
	d.Room(3)
	p.room = 3
	for _, x := range []struct {
		o deed
		e api.Errno
	}{{app("", "x"), api.ErrName}, {wri("A", "x"), api.ErrName}, {mov("a", ""), api.ErrName}, {mov("a", "a"), api.ErrArg}, {mov("none", "a"), api.ErrNone},
		{rem("none"), api.ErrNone}, {cut("none", 0), api.ErrNone}, {cut("a", 3), api.ErrArg}, {cut("a", -1), api.ErrArg}, {app("a", "3"), api.ErrFull},
		{wri("c", "3"), api.ErrFull}, {syn(), api.OK}} {
		gets(t, d, p, x.o, x.e)
	}
	d.Names()
	d.Read("a")
	d.Clone()
	strikes(t, d, p, app("a", "")) // what would leave the file as it is counts
	if d.Changes() != 2 {
		t.Error(d.Changes())
	}
	done(t, d, p, app("a", ""))
}

// Promise 11.2: a second Plan takes the place of the first; none takes all falls away.
func TestPlanAnew(t *testing.T) {
	for _, none := range [][]api.Fall{nil, {}} {
		d, p := both(t)
		laid(t, d, p, api.Fall{At: 0}, api.Fall{At: 1}, api.Fall{At: 3})
		laid(t, d, p, api.Fall{At: 2})
		done(t, d, p, app("a", "1"), app("a", "2"))
		strikes(t, d, p, app("a", "3"))
		done(t, d, p, app("a", "4"), app("a", "5"))
		laid(t, d, p, api.Fall{At: 4}, api.Fall{At: 5})
		d.Plan(none)
		p.lay()
		done(t, d, p, app("a", "6"), app("a", "7"))
	}
	d, p := both(t)
	laid(t, d, p, api.Fall{At: 0})
	strikes(t, d, p, app("a", "1"))
	laid(t, d, p, api.Fall{At: 0}) // the same one, laid anew, is another one
	strikes(t, d, p, app("a", "1"))
	done(t, d, p, app("a", "1"))
}

// Promise 11.2: a plan stays over losses of power, and may be laid on a dead disk; numbers go on.
func TestPlanOverLossesOfPower(t *testing.T) {
	d, p := both(t, app("a", "1"))
	laid(t, d, p, api.Fall{At: 3, Keep: 1}, api.Fall{At: 1, Keep: 1})
	crash(t, d, p, 1, 0)
	strikes(t, d, p, app("a", "2"))
	done(t, d, p, app("a", "2"))
	crash(t, d, p, 1, 0)
	done(t, d, p, app("a", "3"))
	strikes(t, d, p, app("a", "4"))
	if s, _ := d.Read("a"); s != "123" || d.Changes() != 3 {
		t.Errorf("%q, %d changes", s, d.Changes())
	}
	d.Crash(0, 0)
	p.crash(0, 0)
	laid(t, d, p, api.Fall{At: 3})
	gets(t, d, p, app("a", "4"), api.ErrDead) // it is dead: nothing strikes
	d.Up()
	p.up()
	strikes(t, d, p, app("a", "4"))
	done(t, d, p, app("a", "4"))
}

// Rule R2: what is handed to Plan is not changed, and may be changed later.
func TestPlanKeepsNothing(t *testing.T) {
	d, p := both(t)
	l := []api.Fall{{At: 2}, {At: 1, Keep: 1}, {At: 0}, {At: 9}}
	was := slices.Clone(l)
	laid(t, d, p, l...)
	if !slices.Equal(l, was) {
		t.Errorf("%v, was %v", l, was)
	}
	for i := range l {
		l[i] = api.Fall{At: 3, Keep: -1, Torn: 5}
	}
	strikes(t, d, p, app("a", "1"))
	done(t, d, p, app("a", "1"))
	strikes(t, d, p, app("a", "2"))
	done(t, d, p, app("a", "2"))
	strikes(t, d, p, app("a", "3"))
	done(t, d, p, app("a", "3"), app("a", "4"), app("a", "5"))
}

// Rule R1: a long plan is gone through in time.
func TestLongPlan(t *testing.T) {
	const long = 200000
	var l []api.Fall
	for i := range long {
		l = append(l, api.Fall{At: (i*7919)%long + 1, Keep: 1})
	}
	d := disk.New()
	d.Append("a", "")
	d.Sync()
	d.Plan(l)
	struck := 0
	for range 2 * long {
		if d.Append("a", "") == api.ErrDead {
			d.Up()
			struck++
		}
	}
	if struck != long || d.Changes() != long+1 {
		t.Errorf("%d struck, %d changes", struck, d.Changes())
	}
}

package disk_test

import (
	"testing"

	"muniment/api"
	"muniment/disk"
)

// Promise 11.2: a clone and its disk go their own ways.
func TestClone(t *testing.T) {
	start := []deed{app("a", "AA"), app("b", "BB"), app("d", ""), syn(), wri("a", "1"), rem("b"), app("c", "3")}
	for _, l := range [][]deed{{app("a", "x")}, {wri("c", "")}, {rem("a"), app("0", "y")}, {mov("a", "c")}, {mov("c", "b")}, {cut("c", 0)}, {syn()}, {syn(), rem("a"), rem("d")}} {
		d, p := both(t, start...)
		c, q := d.Clone(), p.clone()
		q.holds(t, c)
		done(t, d, p, l...)
		q.holds(t, c)
		crash(t, d, p, 1, 1)
		q.holds(t, c)
		d, p = both(t, start...)
		c, q = d.Clone(), p.clone()
		done(t, c, q, l...)
		p.holds(t, d)
		crash(t, c, q, 2, 1)
		p.holds(t, d)
		crash(t, d, p, 0, 1)
	}
	for keep := range 8 { // what was last done to each file is the clone's, too
		d, p := both(t, start...)
		crash(t, d.Clone(), p.clone(), keep, 1)
	}
}

// Promise 11.2: a clone has the plan, each fall for itself, the room and the count of changes.
func TestCloneWithItsPlan(t *testing.T) {
	d, p := both(t, app("a", "AA"), syn(), app("a", "1"))
	laid(t, d, p, api.Fall{At: 2, Keep: 1}, api.Fall{At: 3}, api.Fall{At: 2})
	d.Room(4)
	p.room = 4
	c, q := d.Clone(), p.clone()
	strikes(t, d, p, app("a", "2"))
	e, r := d.Clone(), p.clone() // the first has struck
	for range 2 {
		strikes(t, c, q, app("a", "2"))
	}
	strikes(t, d, p, app("a", "2"))
	strikes(t, e, r, app("a", "2"))
	for i, x := range []*disk.Disk{d, c, e} {
		w := []*plain{p, q, r}[i]
		done(t, x, w, app("a", "2"))
		gets(t, x, w, app("a", "3"), api.ErrFull)
		strikes(t, x, w, cut("a", 0))
		done(t, x, w, cut("a", 0))
	}
	c.Plan([]api.Fall{{At: 4}})
	c.Room(0)
	done(t, d, p, app("a", "1234"))
	d.Plan([]api.Fall{{At: 5}})
	d.Room(-1)
	done(t, e, r, app("a", "1234"), cut("a", 3))
	gets(t, e, r, app("a", "45"), api.ErrFull)
}

// Promise 11.2: a clone of a dead disk is dead, and each is given power by itself.
func TestCloneOfADeadDisk(t *testing.T) {
	d, p := both(t, app("a", "A"), syn(), app("b", "B"))
	d.Crash(0, 1)
	p.crash(0, 1)
	c, q := d.Clone(), p.clone()
	q.holds(t, c)
	if !c.Up() || !d.Dead() || c.Dead() {
		t.Error("both have power")
	}
	q.up()
	done(t, c, q, app("a", "1"))
	p.holds(t, d)
}

package disk

import (
	"cmp"
	"slices"

	"muniment/api"
)

// Dead tells whether it has no power.
func (d *Disk) Dead() bool { return d == nil || d.dead }

// Up gives it power: whether it had none.
func (d *Disk) Up() bool {
	if d == nil {
		return false
	}
	was := d.dead
	d.dead = false
	return was
}

// Crash takes the power now.
func (d *Disk) Crash(keep, torn int) {
	if !d.Dead() {
		d.fail(keep, torn)
	}
}

// Plan lays when the power will fail, in the place of what was laid ahead.
func (d *Disk) Plan(l []api.Fall) {
	if d == nil {
		return
	}
	d.plan = slices.Clone(l)
	slices.SortStableFunc(d.plan, func(a, b api.Fall) int { return cmp.Compare(a.At, b.At) })
}

// struck tells whether a fall of the plan strikes at the change that is next; if none does, that change counts.
func (d *Disk) struck() bool {
	for len(d.plan) > 0 && d.plan[0].At < d.changes {
		d.plan = d.plan[1:]
	}
	if len(d.plan) == 0 || d.plan[0].At > d.changes {
		d.changes++
		return false
	}
	fall := d.plan[0]
	d.plan = d.plan[1:]
	d.fail(fall.Keep, fall.Torn)
	return true
}

// fail leaves each loose file as it is, torn, or as it was sure to be.
func (d *Disk) fail(keep, torn int) {
	loose, others := 0, 0
	for i, f := range d.files {
		if !f.loose() {
			continue
		}
		if !isKept(keep, loose) {
			d.files[i].is = f.lost(torn, others == 0)
			others++
		}
		loose++
	}
	d.settle()
	d.dead = true
}

// isKept tells whether the loose file at a place has a bit, and it is set.
func isKept(keep, place int) bool {
	return place < api.MostBits && keep>>place&1 == 1
}

// lost is what a loss of power leaves of a loose file that is not kept: what was sure, unless it is the one that may be torn.
func (f file) lost(torn int, first bool) content {
	if !first || torn <= 0 || f.last != appended && f.last != written {
		return f.sure
	}
	n := min(torn, len(f.is.bytes))
	return content{there: true, bytes: f.is.bytes[:n] + f.sure.bytes[min(n, len(f.sure.bytes)):]}
}

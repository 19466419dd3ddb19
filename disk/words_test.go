package disk_test

import (
	"math/rand"
	"strconv"
	"strings"
	"testing"

	"muniment/api"
)

// few is a call of each kind on two files.
func few() []deed {
	return []deed{app("a", "1"), app("b", "23"), wri("a", "4"), wri("b", ""), mov("a", "b"), mov("b", "a"), mov("b", "c"), rem("a"), rem("b"), cut("a", 1), cut("b", 0), syn()}
}

// Promises 11.1 and 11.2: whatever is done by up to four calls, each loss of power behind it leaves what the words say.
func TestAllShortWays(t *testing.T) {
	const deepest = 4
	var walk func(l []deed)
	walk = func(l []deed) {
		d, p := both(t, app("a", "xy"), app("c", "z"), syn())
		for _, o := range l {
			if e, want := o.on(d), p.do(o); e != want {
				t.Fatalf("%v: %v: %d, want %d", l, o, e, want)
			}
		}
		p.holds(t, d)
		for keep := range 1 << len(p.loose()) {
			for torn := range 4 {
				c, q := d.Clone(), p.clone()
				c.Crash(keep, torn)
				q.crash(keep, torn)
				q.holds(t, c)
			}
		}
		if t.Failed() {
			t.Fatalf("%v", l)
		}
		if len(l) < deepest {
			for _, o := range few() {
				walk(append(l[:len(l):len(l)], o))
			}
		}
	}
	walk(nil)
}

// drawn is a call on one of so many files, now and then with arguments that may not be.
func drawn(r *rand.Rand, many int) deed {
	name := func() string {
		if r.Intn(30) == 0 {
			return wrongNames()[r.Intn(len(wrongNames()))]
		}
		return "f" + strconv.Itoa(r.Intn(many))
	}
	bytes := strings.Repeat(string(rune('a'+r.Intn(26))), r.Intn(6))
	switch r.Intn(12) {
	case 0, 1, 2, 3:
		return app(name(), bytes)
	case 4, 5, 6:
		return wri(name(), bytes)
	case 7, 8:
		return mov(name(), name())
	case 9:
		return rem(name())
	case 10:
		return cut(name(), r.Intn(8)-1)
	}
	return syn()
}

// drawnPlan is falls at the changes that come.
func drawnPlan(r *rand.Rand, changes int) []api.Fall {
	var l []api.Fall
	for range r.Intn(6) {
		l = append(l, api.Fall{At: changes + r.Intn(20) - 3, Keep: int(r.Uint64()), Torn: r.Intn(10) - 2})
	}
	return l
}

// Promises 11.1 and 11.2: whatever is done in whatever order, it is as the document's words say.
func TestAgainstWords(t *testing.T) {
	for _, many := range []int{1, 2, 5, 12, 80} {
		r := rand.New(rand.NewSource(int64(many)))
		d, p := both(t)
		seen, deaths := map[api.Errno]int{}, 0
		for range 6000 {
			o := drawn(r, many)
			e, want := o.on(d), p.do(o)
			if e != want {
				t.Fatalf("%v: %d, want %d", o, e, want)
			}
			seen[e]++
			switch r.Intn(50) {
			case 0:
				room := r.Intn(8*many) - many
				d.Room(room)
				p.room = room
			case 1, 2:
				l := drawnPlan(r, d.Changes())
				d.Plan(l)
				p.lay(l...)
			case 3:
				keep, torn := int(r.Uint64()), r.Intn(10)-2
				d.Crash(keep, torn)
				p.crash(keep, torn)
			case 4:
				d, p = d.Clone(), p.clone()
			}
			p.holds(t, d)
			if r.Intn(3) == 0 && d.Dead() {
				deaths++
				d.Up()
				p.up()
			}
			if t.Failed() {
				t.Fatalf("behind %v", o)
			}
		}
		for _, e := range []api.Errno{api.OK, api.ErrDead, api.ErrName, api.ErrFull, api.ErrNone, api.ErrArg} {
			if seen[e] < 20 {
				t.Errorf("%d files: the error %d %d times", many, e, seen[e])
			}
		}
		if deaths < 50 {
			t.Errorf("%d files: %d losses of power", many, deaths)
		}
	}
}

// Rule R4: the same calls in the same order answer the same.
func TestTheSameTwice(t *testing.T) {
	var told [2]string
	for i := range told {
		r := rand.New(rand.NewSource(7))
		d, _ := both(t)
		var out strings.Builder
		for range 2000 {
			out.WriteString(strconv.Itoa(int(drawn(r, 10).on(d))))
			if r.Intn(20) == 0 {
				d.Crash(int(r.Uint64()), 2)
				d.Up()
			}
			out.WriteString(strings.Join(d.Names(), ",") + strconv.Itoa(d.Used()))
		}
		told[i] = out.String()
	}
	if told[0] != told[1] {
		t.Error("unlike answers")
	}
}

package disk_test

import (
	"maps"
	"math"
	"strconv"
	"testing"

	"muniment/api"
	"muniment/disk"
)

// crash takes and gives power, and holds that all is as the words say, ahead of Up and behind it.
func crash(t *testing.T, d *disk.Disk, p *plain, keep, torn int) {
	t.Helper()
	d.Crash(keep, torn)
	p.crash(keep, torn)
	p.holds(t, d)
	if !d.Dead() || d.Loose() != 0 {
		t.Errorf("Crash(%d, %d): Dead %t, %d loose", keep, torn, d.Dead(), d.Loose())
	}
	if !d.Up() || !p.up() || d.Dead() || d.Up() {
		t.Errorf("Crash(%d, %d): it was not dead, or is", keep, torn)
	}
	p.holds(t, d)
}

// leaves holds what files a loss of power leaves behind some calls.
func leaves(t *testing.T, l []deed, keep, torn int, want map[string]string) {
	t.Helper()
	d, p := both(t, l...)
	crash(t, d, p, keep, torn)
	if got := files(t, d); !maps.Equal(got, want) {
		t.Errorf("%v, Crash(%d, %d): %q, want %q", l, keep, torn, got, want)
	}
}

// Promise 11.2, the chapter's example: b is there, a is not.
func TestExample(t *testing.T) {
	d := disk.New()
	d.Append("a", "x")
	d.Append("b", "y")
	d.Crash(2, 0)
	if !d.Up() {
		t.Error("it was not dead")
	}
	if s, e := d.Read("b"); s != "y" || e != api.OK {
		t.Errorf("%q, %d", s, e)
	}
	if s, e := d.Read("a"); s != "" || e != api.ErrNone {
		t.Errorf("%q, %d", s, e)
	}
}

// Promise 11.2: Crash with no loose file leaves all as it is.
func TestCrashWithoutLooseFiles(t *testing.T) {
	for _, keep := range []int{0, 1, -1} {
		for _, torn := range []int{-1, 0, 1, 9} {
			leaves(t, nil, keep, torn, nil)
			leaves(t, []deed{app("a", "x"), app("b", "y"), rem("b"), syn()}, keep, torn, map[string]string{"a": "x"})
			leaves(t, []deed{app("a", "x"), syn(), app("b", "y"), rem("b"), app("a", "")}, keep, torn, map[string]string{"a": "x"})
		}
	}
}

// Promise 11.2: with one loose file, of each kind of change, kept and not.
func TestCrashWithOneLooseFile(t *testing.T) {
	was := map[string]string{"a": "xyz"}
	for _, x := range []struct {
		l  []deed
		is map[string]string
	}{
		{[]deed{app("a", "1")}, map[string]string{"a": "xyz1"}},
		{[]deed{wri("a", "1")}, map[string]string{"a": "1"}},
		{[]deed{cut("a", 1)}, map[string]string{"a": "x"}},
		{[]deed{rem("a")}, nil},
		{[]deed{app("b", "1")}, map[string]string{"a": "xyz", "b": "1"}},
		{[]deed{app("c", "1"), mov("c", "0")}, map[string]string{"a": "xyz", "0": "1"}},
	} {
		l := append([]deed{app("a", "xyz"), syn()}, x.l...)
		for _, torn := range []int{math.MinInt, -1, 0} {
			leaves(t, l, 0, torn, was)
			leaves(t, l, 2, torn, was) // the bit of none
			leaves(t, l, math.MaxInt-1, torn, was)
			leaves(t, l, math.MinInt, torn, was)
		}
		for _, torn := range []int{-1, 0, 1, 9} {
			leaves(t, l, 1, torn, x.is)
			leaves(t, l, 3, torn, x.is)
			leaves(t, l, -1, torn, x.is)
		}
	}
}

// Promise 11.2: each bit of Keep is that of the loose file at its place by names; files that are not loose have none.
func TestCrashKeeps(t *testing.T) {
	l := []deed{app("a", "1"), app("b", "2"), app("c", "3"), app("d", "4"), syn(), app("e", "new"), rem("b"), app("d", "!"), wri("0", "zero")} // loose: 0, b, d, e
	for keep := range 32 {
		want := map[string]string{"a": "1", "c": "3", "b": "2", "d": "4"}
		if keep&1 != 0 {
			want["0"] = "zero"
		}
		if keep&2 != 0 {
			delete(want, "b")
		}
		if keep&4 != 0 {
			want["d"] = "4!"
		}
		if keep&8 != 0 {
			want["e"] = "new"
		}
		for _, torn := range []int{-5, 0} {
			leaves(t, l, keep, torn, want)
			leaves(t, l, keep|-32, torn, want) // the other bits are those of none
		}
	}
}

// many is calls that leave so many loose files.
func many(n int) []deed {
	var l []deed
	for i := range n {
		l = append(l, app(numbered(i), "xyz"))
	}
	return l
}

// numbered is the name of the loose file at a place of these.
func numbered(i int) string { return strconv.Itoa(1000 + i) }

// Promise 11.2: the loose files at MostBits and behind have no bit, and are lost whatever Keep is; the first of them may be the one that is torn.
func TestCrashBehindMostBits(t *testing.T) {
	const all = api.MostBits + 4
	for _, keep := range []int{-1, math.MaxInt, math.MaxInt >> 1, 1<<api.MostBits - 1} {
		for _, n := range []int{api.MostBits - 1, api.MostBits, api.MostBits + 1, all} {
			want := map[string]string{}
			for i := range min(n, api.MostBits) {
				want[numbered(i)] = "xyz"
			}
			leaves(t, many(n), keep, 0, want)
			if n > api.MostBits {
				want[numbered(api.MostBits)] = "xy"
			}
			leaves(t, many(n), keep, 2, want)
		}
	}
	for bit := range 64 {
		want := map[string]string{}
		if bit < api.MostBits {
			want[numbered(bit)] = "xyz"
		}
		keep := 1
		leaves(t, many(all), keep<<bit, 0, want)
	}
	for _, bit := range []int{api.MostBits - 1, api.MostBits, api.MostBits + 1} { // all but one
		want := map[string]string{}
		for i := range api.MostBits {
			want[numbered(i)] = "xyz"
		}
		if bit < api.MostBits {
			delete(want, numbered(bit))
		}
		keep := 1
		leaves(t, many(all), -1&^(keep<<bit), 0, want)
	}
}

// Promise 11.2: what a torn file has: the first bytes of what it is, and behind them what it was sure to have from there on.
func TestCrashTears(t *testing.T) {
	for _, x := range []struct {
		l    []deed // behind a is sure to be abcdef
		torn []string
	}{
		{[]deed{app("a", "123")}, []string{"abcdef", "abcdef", "abcdef", "abcdef", "abcdef", "abcdef", "abcdef", "abcdef1", "abcdef12", "abcdef123", "abcdef123"}},
		{[]deed{wri("a", "123")}, []string{"abcdef", "1bcdef", "12cdef", "123def", "123def", "123def"}},
		{[]deed{wri("a", "12345678")}, []string{"abcdef", "1bcdef", "12cdef", "123def", "1234ef", "12345f", "123456", "1234567", "12345678", "12345678"}},
		{[]deed{wri("a", "123456")}, []string{"abcdef", "1bcdef", "12cdef", "123def", "1234ef", "12345f", "123456", "123456"}},
		{[]deed{wri("a", "")}, []string{"abcdef", "abcdef", "abcdef"}},
		{[]deed{cut("a", 2), app("a", "1")}, []string{"abcdef", "abcdef", "abcdef", "ab1def", "ab1def"}},
		{[]deed{rem("a"), app("a", "1")}, []string{"abcdef", "1bcdef", "1bcdef"}},
		{[]deed{rem("a"), wri("a", "12")}, []string{"abcdef", "1bcdef", "12cdef", "12cdef"}},
		{[]deed{wri("a", "12"), app("a", "3")}, []string{"abcdef", "1bcdef", "12cdef", "123def", "123def"}},
		{[]deed{app("b", "12"), mov("b", "a"), app("a", "")}, []string{"abcdef", "1bcdef", "12cdef", "12cdef"}}, // Append is what was last done
	} {
		l := append([]deed{app("a", "abcdef"), syn()}, x.l...)
		for torn, want := range x.torn {
			leaves(t, l, 0, torn, map[string]string{"a": want})
		}
		last := x.torn[len(x.torn)-1]
		leaves(t, l, 0, 1000, map[string]string{"a": last})
		leaves(t, l, 0, math.MaxInt, map[string]string{"a": last})
		leaves(t, l, 0, -1, map[string]string{"a": "abcdef"})
		leaves(t, l, 0, math.MinInt, map[string]string{"a": "abcdef"})
	}
}

// Promise 11.2: a file that was not sure to be there is torn, too; with no bytes it is there all the same.
func TestCrashTearsNewFiles(t *testing.T) {
	for _, l := range [][]deed{{app("a", "123")}, {wri("a", "123")}, {app("a", "12"), app("a", "3")}, {wri("a", "12345"), wri("a", "123")}} {
		leaves(t, l, 0, -1, nil)
		leaves(t, l, 0, 0, nil)
		leaves(t, l, 0, 1, map[string]string{"a": "1"})
		leaves(t, l, 0, 2, map[string]string{"a": "12"})
		leaves(t, l, 0, 3, map[string]string{"a": "123"})
		leaves(t, l, 0, 4, map[string]string{"a": "123"})
		leaves(t, l, 0, math.MaxInt, map[string]string{"a": "123"})
	}
	for _, l := range [][]deed{{app("a", "")}, {wri("a", "")}} {
		leaves(t, l, 0, 0, nil)
		leaves(t, l, 0, 1, map[string]string{"a": ""})
		leaves(t, l, 1, 0, map[string]string{"a": ""})
	}
}

// Promise 11.2: what was last moved (to either name), removed or cut is not torn, whatever was done ahead.
func TestCrashDoesNotTear(t *testing.T) {
	was := map[string]string{"a": "abcdef", "b": "123"}
	for _, l := range [][]deed{
		{rem("a")},
		{app("a", "x"), rem("a")},
		{cut("a", 2)},
		{app("a", "xyz"), cut("a", 8)}, // more bytes than it was sure to have
		{app("a", "xyz"), cut("a", 9)}, // Truncate changed nothing, and was last
		{wri("a", "xyz"), cut("a", 2)}, // fewer
		{wri("a", "1234567"), cut("a", 0)},
		{mov("a", "new")},
		{app("a", "xyz"), mov("a", "new")},
		{wri("0", "xyz"), mov("0", "a")},
		{wri("0", "xyz"), mov("0", "1")},
		{mov("a", "b")},
		{app("a", "x"), app("b", "y"), mov("a", "b")},
		{app("a", "x"), app("b", "y"), mov("b", "a")},
		{mov("b", "a"), cut("a", 1)},
	} {
		for _, torn := range []int{1, 2, 3, 5, 100} {
			leaves(t, append([]deed{app("a", "abcdef"), app("b", "123"), syn()}, l...), 0, torn, was)
		}
	}
}

// Promise 11.2: only the first one that is not kept may be torn; where that one may not, none is.
func TestCrashTearsTheFirstOnly(t *testing.T) {
	l := []deed{app("a", "AA"), app("b", "BB"), app("c", "CC"), syn(), app("a", "1"), app("b", "2"), wri("c", "33")}
	leaves(t, l, 0, 3, map[string]string{"a": "AA1", "b": "BB", "c": "CC"})
	leaves(t, l, 1, 3, map[string]string{"a": "AA1", "b": "BB2", "c": "CC"})
	leaves(t, l, 2, 3, map[string]string{"a": "AA1", "b": "BB2", "c": "CC"})
	leaves(t, l, 3, 1, map[string]string{"a": "AA1", "b": "BB2", "c": "3C"})
	leaves(t, l, 4, 2, map[string]string{"a": "AA", "b": "BB", "c": "33"})
	leaves(t, l, 7, 1, map[string]string{"a": "AA1", "b": "BB2", "c": "33"})
	gone := []deed{app("a", "AA"), app("b", "BB"), app("c", "CC"), syn(), rem("a"), app("b", "2"), wri("c", "33")}
	leaves(t, gone, 0, 3, map[string]string{"a": "AA", "b": "BB", "c": "CC"}) // a is not there, and was the first
	leaves(t, gone, 1, 3, map[string]string{"b": "BB2", "c": "CC"})
	leaves(t, gone, 3, 1, map[string]string{"b": "BB2", "c": "3C"})
	short := []deed{app("a", "AA"), app("b", "BB"), syn(), cut("a", 1), app("b", "2")}
	leaves(t, short, 0, 3, map[string]string{"a": "AA", "b": "BB"})
	leaves(t, short, 1, 3, map[string]string{"a": "A", "b": "BB2"})
	sure := []deed{app("a", "AA"), syn(), app("a", ""), app("b", "22")} // a is not loose
	leaves(t, sure, 0, 1, map[string]string{"a": "AA", "b": "2"})
}

// Promise 11.2: each half of a Move is kept or lost by itself.
func TestCrashBehindAMove(t *testing.T) {
	for _, to := range []string{"0", "b"} {
		l := []deed{app("a", "A"), app(to, "old"), syn(), mov("a", to)}
		atA, atTo := 1, 2
		if to < "a" {
			atA, atTo = 2, 1
		}
		leaves(t, l, 0, 1, map[string]string{"a": "A", to: "old"})
		leaves(t, l, atA, 1, map[string]string{to: "old"})
		leaves(t, l, atTo, 1, map[string]string{"a": "A", to: "A"})
		leaves(t, l, 3, 1, map[string]string{to: "A"})
		l = []deed{app("a", "A"), syn(), mov("a", to)}
		leaves(t, l, atA, 1, nil)
		leaves(t, l, atTo, 1, map[string]string{"a": "A", to: "A"})
	}
}

// Promise 11.2: behind a loss of power all is sure: another one changes nothing more.
func TestAllIsSureBehindIt(t *testing.T) {
	d, p := both(t, app("a", "AA"), app("b", "BB"), syn(), wri("a", "1"), rem("b"), app("c", "333"))
	crash(t, d, p, 2, 1)
	for _, keep := range []int{0, 1, -1} {
		crash(t, d, p, keep, 1)
	}
	done(t, d, p, app("a", "x"))
	crash(t, d, p, 0, 0)
	if s, _ := d.Read("a"); s != "1A" {
		t.Errorf("%q", s)
	}
}

// Promise 11.2: Crash of a dead disk is nothing.
func TestCrashOfADeadDisk(t *testing.T) {
	d, p := both(t, app("a", "AA"), syn(), app("a", "1"), app("b", "2"))
	d.Crash(1, 0)
	p.crash(1, 0)
	for _, keep := range []int{0, 1, 2, -1} {
		d.Crash(keep, keep)
		p.holds(t, d)
	}
	if !d.Up() || d.Up() || d.Changes() != 3 {
		t.Error(d.Changes())
	}
	if s, _ := d.Read("a"); s != "AA1" {
		t.Errorf("%q", s)
	}
}

// Promise 11.2: Up of a disk that has power changes nothing.
func TestUp(t *testing.T) {
	d, p := both(t, app("a", "A"), syn(), app("a", "1"))
	for range 2 {
		if d.Up() || d.Dead() {
			t.Error("it was dead")
		}
		p.holds(t, d)
	}
	crash(t, d, p, 0, 0)
	done(t, d, p, app("a", "2"))
}

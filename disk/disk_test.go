package disk_test

import (
	"math"
	"slices"
	"strings"
	"testing"

	"muniment/api"
	"muniment/disk"
)

// wrongNames is texts that may not be names.
func wrongNames() []string {
	return []string{"", " ", "A", "_", "a b", "a/b", "a\x00", "\xff", "\u00e4", "base_1", "a.B", strings.Repeat("a", api.MaxName+1), strings.Repeat("a", 1000)}
}

// Promise 11.1: a name has 1 to MaxName bytes.
func TestNameByLength(t *testing.T) {
	for n := range 3 * api.MaxName {
		for _, of := range []string{"a", "z", "0", "9", ".", "-"} {
			if got, want := disk.Name(strings.Repeat(of, n)), n >= 1 && n <= 32; got != want {
				t.Errorf("%d of %s: %t", n, of, got)
			}
		}
	}
	if disk.Name(strings.Repeat("a", 1<<20)) || !disk.Name("abcdefghijklmnopqrstuvwxyz.-0123") || disk.Name("abcdefghijklmnopqrstuvwxyz.-01234") {
		t.Error("long names")
	}
}

// Promise 11.1: a name has bytes of a to z, 0 to 9, . and -, at each of its places.
func TestNameByBytes(t *testing.T) {
	for b := range 256 {
		want := strings.IndexByte("abcdefghijklmnopqrstuvwxyz0123456789.-", byte(b)) >= 0
		if one := string([]byte{byte(b)}); disk.Name(one) != want {
			t.Errorf("%q: %t", one, !want)
		}
		for _, n := range []int{2, 3, api.MaxName} {
			for at := range n {
				s := []byte(strings.Repeat("a", n))
				s[at] = byte(b)
				if disk.Name(string(s)) != want {
					t.Errorf("%q: %t", s, !want)
				}
			}
		}
	}
	for _, s := range wrongNames() {
		if disk.Name(s) {
			t.Errorf("%.50q may be", s)
		}
	}
	for _, s := range []string{"base-1", "base-1.new", "seg-12-3", ".", "..", "-", "-.-", "0"} {
		if !disk.Name(s) {
			t.Errorf("%q may not be", s)
		}
	}
}

// Promise 11.1: a new disk has no file, has power, and may have any number of bytes.
func TestNew(t *testing.T) {
	d, p := both(t)
	p.holds(t, d)
	if d.Dead() || d.Up() || len(d.Names()) != 0 {
		t.Errorf("%t, %q", d.Dead(), d.Names())
	}
	if a, b := disk.New(), disk.New(); a.Append("a", "x") != api.OK || b.Used() != 0 {
		t.Error("two new ones are one")
	}
	done(t, d, p, app("a", strings.Repeat("x", 1<<20)), wri("b", strings.Repeat("x", 1<<21)))
}

// Promise 11.1: Read of each kind of name, and which of its errors comes first.
func TestRead(t *testing.T) {
	long := strings.Repeat("n", api.MaxName)
	d, _ := both(t, app("a", "x\x00\xffy"), wri("empty", ""), app(long, "long"), app("gone", "x"), rem("gone"), app("old", "x"), mov("old", "new"))
	for _, x := range []struct {
		name, s string
		e       api.Errno
	}{{"a", "x\x00\xffy", api.OK}, {"empty", "", api.OK}, {long, "long", api.OK}, {"new", "x", api.OK}, {"old", "", api.ErrNone}, {"gone", "", api.ErrNone},
		{"none", "", api.ErrNone}, {"aa", "", api.ErrNone}, {long[1:], "", api.ErrNone}, {"A", "", api.ErrName}, {"", "", api.ErrName}, {long + "n", "", api.ErrName}} {
		if s, e := d.Read(x.name); s != x.s || e != x.e {
			t.Errorf("Read(%q): %q, %d, want %q, %d", x.name, s, e, x.s, x.e)
		}
	}
	for _, s := range wrongNames() {
		if s, e := d.Read(s); s != "" || e != api.ErrName {
			t.Errorf("%q, %d", s, e)
		}
	}
	d.Crash(0, 0)
	for _, s := range append(wrongNames(), "a", "empty", "none", long) {
		if s, e := d.Read(s); s != "" || e != api.ErrDead {
			t.Errorf("%q, %d", s, e)
		}
	}
}

// Promise 11.1: Read changes nothing, and is no change.
func TestReadIsNoChange(t *testing.T) {
	d, p := both(t, app("a", "x"))
	d.Plan([]api.Fall{{At: 1}})
	p.lay(api.Fall{At: 1})
	for _, s := range append(wrongNames(), "a", "b") {
		d.Read(s)
		p.holds(t, d)
	}
	gets(t, d, p, app("a", "y"), api.ErrDead)
}

// Promise 11.1: Names is sorted by bytes, however the files came.
func TestNames(t *testing.T) {
	want := []string{"-", ".", "..", "0", "00", "1", "10", "2", "a", "a-", "a.", "a0", "aa", "b", strings.Repeat("z", api.MaxName)}
	for turn := range want {
		d, p := both(t)
		for i := range want {
			done(t, d, p, app(want[(i*7+turn)%len(want)], "x"))
		}
		if got := d.Names(); !slices.Equal(got, want) {
			t.Errorf("%q, want %q", got, want)
		}
		done(t, d, p, mov("0", "5"), rem("a"), wri("a-", ""), cut("b", 0), mov("1", "10"))
		if got := d.Names(); len(got) != len(want)-2 || slices.Contains(got, "a") || !slices.IsSorted(got) {
			t.Errorf("%q", got)
		}
	}
}

// Rule R2: what Names tells is the caller's own.
func TestNamesAreTheCallersOwn(t *testing.T) {
	d, p := both(t, app("a", "x"), app("b", "y"), app("c", "z"))
	got := d.Names()
	done(t, d, p, rem("b"), app("d", "w"))
	if !slices.Equal(got, []string{"a", "b", "c"}) {
		t.Errorf("%q", got)
	}
	clear(got)
	_ = append(got[:0], "1", "2", "3")
	clear(d.Names())
	p.holds(t, d)
}

// Promise 11.2: Used with no file, with one and with many, behind each kind of change.
func TestUsed(t *testing.T) {
	d, p := both(t)
	for _, x := range []struct {
		o    deed
		used int
	}{{app("a", ""), 0}, {app("a", "xy"), 2}, {app("a", "z"), 3}, {wri("b", "12345"), 8}, {wri("b", "1"), 4}, {syn(), 4}, {app("c", "1234567"), 11},
		{cut("c", 5), 9}, {mov("c", "b"), 8}, {mov("a", "d"), 8}, {rem("b"), 3}, {cut("d", 0), 0}, {rem("d"), 0}} {
		done(t, d, p, x.o)
		if d.Used() != x.used {
			t.Errorf("%v: %d, want %d", x.o, d.Used(), x.used)
		}
	}
	d.Crash(0, 0)
	if d.Used() != 4 { // what was sure counts again
		t.Error(d.Used())
	}
}

// Promise 11.2: there may be as many bytes as Room says, and not one more; nothing changes then.
func TestRoom(t *testing.T) {
	for _, room := range []int{0, 1, 4, 5, 6, 10, 100} {
		for _, name := range []string{"a", "b", "c"} {
			for n := range room + 8 {
				s := strings.Repeat("n", n)
				for _, o := range []deed{app(name, s), wri(name, s)} {
					d, p := both(t, app("a", "xy"), syn(), app("b", "123"))
					d.Room(room)
					p.room = room
					grown := n
					if was, _ := d.Read(name); o.kind == "Write" {
						grown -= len(was)
					}
					want := api.OK
					if grown > 0 && 5+grown > room {
						want = api.ErrFull
					}
					gets(t, d, p, o, want)
				}
			}
		}
	}
}

// Promise 11.2: where there is no room: what does not grow is done all the same.
func TestChangesWithoutRoom(t *testing.T) {
	for _, room := range []int{0, 1, 4, 5} {
		d, p := both(t, app("a", "xyz"), app("b", "12"), syn())
		d.Room(room)
		p.room = room
		for _, o := range []deed{app("a", "w"), app("c", "w"), wri("c", "w"), wri("a", "1234"), wri("b", "123"), wri("b", strings.Repeat("n", 1000))} {
			gets(t, d, p, o, api.ErrFull)
		}
		done(t, d, p, app("a", ""), app("c", ""), wri("d", ""), wri("a", "uvw"), wri("a", "uv"), mov("b", "e"), cut("a", 1), syn(), rem("c"), mov("a", "d"))
		done(t, d, p, wri("e", ""), rem("d"), app("a", strings.Repeat("x", room)))
		gets(t, d, p, app("a", "x"), api.ErrFull)
		gets(t, d, p, app("b", "x"), api.ErrFull)
	}
}

// Promise 11.2: a Write that makes a file shorter is done where there is no room, by as many bytes as it may be.
func TestShorterWithoutRoom(t *testing.T) {
	for n := range 7 {
		d, p := both(t, app("a", "12345"), app("b", "67890"))
		d.Room(3)
		p.room = 3
		want := api.OK
		if n > 5 {
			want = api.ErrFull
		}
		gets(t, d, p, wri("a", strings.Repeat("x", n)), want)
	}
}

// Promise 11.2: below 0 any; Room may be laid anew, less than there is already, and on a dead disk.
func TestRoomAnew(t *testing.T) {
	for _, room := range []int{-1, -2, -1 << 40, math.MinInt, math.MaxInt, 1 << 40} {
		d, p := both(t, app("a", "xy"))
		d.Room(1)
		p.room = 1
		gets(t, d, p, app("a", "z"), api.ErrFull)
		d.Room(room)
		p.room = -1
		p.holds(t, d)
		done(t, d, p, app("a", "z"), app("b", strings.Repeat("x", 100000)))
		d.Crash(3, 0)
		p.crash(3, 0)
		d.Room(100004)
		p.room = 100004
		p.holds(t, d)
		d.Up()
		p.up()
		gets(t, d, p, app("a", "zz"), api.ErrFull)
		done(t, d, p, app("a", "z"))
	}
}

// Promise 11.2: a loss of power may bring more bytes than there is room for; those that grow are refused then.
func TestRoomBehindALossOfPower(t *testing.T) {
	d, p := both(t, app("a", "12345"), syn())
	d.Room(5)
	p.room = 5
	done(t, d, p, rem("a"), app("b", "678"))
	d.Crash(2, 0) // a comes again, and b stays
	p.crash(2, 0)
	p.holds(t, d)
	d.Up()
	p.up()
	if d.Used() != 8 {
		t.Error(d.Used())
	}
	gets(t, d, p, app("b", "x"), api.ErrFull)
	done(t, d, p, app("b", ""), cut("a", 1), app("b", "x"))
	gets(t, d, p, app("b", "x"), api.ErrFull)
}

// Promise 11.2: each function of a nil disk.
func TestNil(t *testing.T) {
	var d *disk.Disk
	d.Room(5)
	d.Plan([]api.Fall{{At: 0}})
	d.Crash(1, 1)
	for _, name := range append(wrongNames(), "a") {
		for _, o := range append(changes(name), mov(name, ""), mov(name, name), cut(name, -1), syn()) {
			if e := o.on(d); e != api.ErrDead {
				t.Errorf("%v: %d", o, e)
			}
		}
		if s, e := d.Read(name); s != "" || e != api.ErrDead {
			t.Errorf("Read(%q): %q, %d", name, s, e)
		}
	}
	if !d.Dead() || d.Up() || !d.Dead() {
		t.Errorf("Dead %t, Up %t", d.Dead(), d.Up())
	}
	if len(d.Names()) != 0 || d.Used() != 0 || d.Changes() != 0 || d.Loose() != 0 || d.Clone() != nil {
		t.Errorf("%q, %d, %d, %d, %v", d.Names(), d.Used(), d.Changes(), d.Loose(), d.Clone())
	}
}

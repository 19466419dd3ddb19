package disk_test

import (
	"fmt"
	"maps"
	"slices"
	"strings"
	"testing"

	"muniment/api"
	"muniment/disk"
)

// deed is a call that may be a change, or Sync.
type deed struct {
	kind     string
	name, to string // to is the bytes, too
	n        int
}

func app(name, s string) deed     { return deed{kind: "Append", name: name, to: s} }
func wri(name, s string) deed     { return deed{kind: "Write", name: name, to: s} }
func mov(name, to string) deed    { return deed{kind: "Move", name: name, to: to} }
func rem(name string) deed        { return deed{kind: "Remove", name: name} }
func cut(name string, n int) deed { return deed{kind: "Truncate", name: name, n: n} }
func syn() deed                   { return deed{kind: "Sync"} }

// String keeps what a failing test tells readable, whatever the names are.
func (o deed) String() string {
	return fmt.Sprintf("%s(%.40q, %.40q, %d)", o.kind, o.name, o.to, o.n)
}

// needsFile tells whether a change is of a file that must be there.
func (o deed) needsFile() bool { return o.kind == "Move" || o.kind == "Remove" || o.kind == "Truncate" }

// changes is one of each kind, of a file of that name.
func changes(name string) []deed {
	return []deed{app(name, "x"), wri(name, "x"), mov(name, "z"), rem(name), cut(name, 0)}
}

func names(m map[string]string) []string { return slices.Sorted(maps.Keys(m)) }

// on does it to a disk.
func (o deed) on(d *disk.Disk) api.Errno {
	switch o.kind {
	case "Append":
		return d.Append(o.name, o.to)
	case "Write":
		return d.Write(o.name, o.to)
	case "Move":
		return d.Move(o.name, o.to)
	case "Remove":
		return d.Remove(o.name)
	case "Truncate":
		return d.Truncate(o.name, o.n)
	}
	return d.Sync()
}

// plain is a disk by the document's words: what files there are and are sure to be, and what was last done to each.
type plain struct {
	is, sure, last map[string]string
	dead           bool
	room, changes  int
	plan           []api.Fall
	struck         []bool // of each of the plan
}

func plainNew() *plain {
	return &plain{is: map[string]string{}, sure: map[string]string{}, last: map[string]string{}, room: -1}
}

func (p *plain) clone() *plain {
	own := *p
	own.is, own.sure, own.last = maps.Clone(p.is), maps.Clone(p.sure), maps.Clone(p.last)
	own.struck = slices.Clone(p.struck)
	return &own
}

func (p *plain) used() int {
	n := 0
	for _, s := range p.is {
		n += len(s)
	}
	return n
}

// loose is the names of the loose files, sorted.
func (p *plain) loose() []string {
	var out []string
	all := maps.Clone(p.is)
	maps.Copy(all, p.sure)
	for _, name := range names(all) {
		is, here := p.is[name]
		sure, there := p.sure[name]
		if here != there || is != sure {
			out = append(out, name)
		}
	}
	return out
}

func plainName(s string) bool {
	return len(s) > 0 && len(s) < 33 && strings.Trim(s, "abcdefghijklmnopqrstuvwxyz0123456789.-") == ""
}

// hinders is the error that a change gets ahead of the power.
func (p *plain) hinders(o deed) api.Errno {
	was, is := p.is[o.name]
	grown := map[string]int{"Append": len(o.to), "Write": len(o.to) - len(was)}[o.kind]
	switch {
	case p.dead:
		return api.ErrDead
	case !plainName(o.name):
		return api.ErrName
	case o.needsFile() && !is:
		return api.ErrNone
	case o.kind == "Move" && !plainName(o.to):
		return api.ErrName
	case grown > 0 && p.room >= 0 && p.used()+grown > p.room:
		return api.ErrFull
	case o.kind == "Move" && o.name == o.to, o.kind == "Truncate" && (o.n < 0 || o.n > len(was)):
		return api.ErrArg
	}
	return api.OK
}

// do is what the words say of a call.
func (p *plain) do(o deed) api.Errno {
	if o.kind == "Sync" {
		if p.dead {
			return api.ErrDead
		}
		p.sure = maps.Clone(p.is)
		return api.OK
	}
	if e := p.hinders(o); e != api.OK {
		return e
	}
	for i, f := range p.plan {
		if f.At == p.changes && !p.struck[i] {
			p.struck[i] = true
			p.crash(f.Keep, f.Torn)
			return api.ErrDead
		}
	}
	p.changes++
	p.last[o.name] = o.kind
	was := p.is[o.name]
	switch o.kind {
	case "Append":
		p.is[o.name] = was + o.to
	case "Write":
		p.is[o.name] = o.to
	case "Move":
		p.last[o.to] = o.kind
		p.is[o.to] = was
		delete(p.is, o.name)
	case "Remove":
		delete(p.is, o.name)
	case "Truncate":
		p.is[o.name] = was[:o.n]
	}
	return api.OK
}

func (p *plain) crash(keep, torn int) {
	if p.dead {
		return
	}
	p.dead = true
	first := true
	for place, name := range p.loose() {
		if place < 62 && uint64(keep)/(1<<place)%2 == 1 {
			continue
		}
		is, here := p.is[name]
		sure, was := p.sure[name]
		tears := first && torn > 0 && here && (p.last[name] == "Append" || p.last[name] == "Write")
		first = false
		switch {
		case tears:
			p.is[name] = plainTorn(is, sure, torn)
		case was:
			p.is[name] = sure
		default:
			delete(p.is, name)
		}
	}
	p.sure = maps.Clone(p.is)
}

// plainTorn is byte by byte what a torn file has.
func plainTorn(is, sure string, torn int) string {
	var out []byte
	for i := range max(len(is), len(sure)) {
		if i < len(is) && i < torn {
			out = append(out, is[i])
		} else if i < len(sure) {
			out = append(out, sure[i])
		}
	}
	return string(out)
}

func (p *plain) up() bool {
	was := p.dead
	p.dead = false
	return was
}

func (p *plain) lay(l ...api.Fall) {
	p.plan, p.struck = slices.Clone(l), make([]bool, len(l))
}

// files is what a disk has, which has power.
func files(t *testing.T, d *disk.Disk) map[string]string {
	t.Helper()
	out := map[string]string{}
	for _, name := range d.Names() {
		s, e := d.Read(name)
		if e != api.OK {
			t.Fatalf("Read(%s): %d", name, e)
		}
		out[name] = s
	}
	return out
}

// holds holds a disk against the words: all that it tells, and what it is sure of.
func (p *plain) holds(t *testing.T, d *disk.Disk) {
	t.Helper()
	if d.Dead() != p.dead || d.Used() != p.used() || d.Loose() != len(p.loose()) || d.Changes() != p.changes {
		t.Errorf("Dead %t, Used %d, Loose %d, Changes %d, want %t, %d, %d, %d", d.Dead(), d.Used(), d.Loose(), d.Changes(), p.dead, p.used(), len(p.loose()), p.changes)
	}
	if got := d.Names(); !slices.Equal(got, names(p.is)) {
		t.Errorf("Names %q, want %q", got, names(p.is))
	}
	up := d.Clone()
	if up.Up() != p.dead {
		t.Errorf("Up is %t", !p.dead)
	}
	if got := files(t, up); !maps.Equal(got, p.is) {
		t.Errorf("%q, want %q", got, p.is)
	}
	up.Crash(0, 0)
	up.Up()
	if got := files(t, up); !maps.Equal(got, p.sure) {
		t.Errorf("sure is %q, want %q", got, p.sure)
	}
}

// both is a disk behind some calls, which are all right, and what the words say of it.
func both(t *testing.T, l ...deed) (*disk.Disk, *plain) {
	t.Helper()
	d, p := disk.New(), plainNew()
	done(t, d, p, l...)
	return d, p
}

// done does calls that are all right.
func done(t *testing.T, d *disk.Disk, p *plain, l ...deed) {
	t.Helper()
	for _, o := range l {
		gets(t, d, p, o, api.OK)
	}
}

// gets does a call that gets that answer, and holds that all is as the words say then.
func gets(t *testing.T, d *disk.Disk, p *plain, o deed, want api.Errno) {
	t.Helper()
	if e, word := o.on(d), p.do(o); e != want || word != want {
		t.Errorf("%v: %d, by the words %d, want %d", o, e, word, want)
	}
	p.holds(t, d)
}

package wal_test

import (
	"encoding/binary"
	"fmt"
	"hash/crc32"
	"maps"
	"regexp"
	"slices"
	"strconv"
	"strings"
	"testing"

	"muniment/api"
	"muniment/disk"
	"muniment/wal"
)

// deed is a change of a disk, or Sync.
type deed struct {
	kind, name, to string // to is the bytes, too
	n              int
}

func app(name, s string) deed     { return deed{kind: "Append", name: name, to: s} }
func wri(name, s string) deed     { return deed{kind: "Write", name: name, to: s} }
func mov(name, to string) deed    { return deed{kind: "Move", name: name, to: to} }
func rem(name string) deed        { return deed{kind: "Remove", name: name} }
func cut(name string, n int) deed { return deed{kind: "Truncate", name: name, n: n} }
func syn() deed                   { return deed{kind: "Sync"} }

// on does it to a disk.
func (o deed) on(d *disk.Disk) api.Errno {
	switch o.kind {
	case "Append":
		return d.Append(o.name, o.to)
	case "Write":
		return d.Write(o.name, o.to)
	case "Move":
		return d.Move(o.name, o.to)
	case "Remove":
		return d.Remove(o.name)
	case "Truncate":
		return d.Truncate(o.name, o.n)
	}
	return d.Sync()
}

// run does deeds one behind the other, up to the first that fails: how many were done.
func run(d *disk.Disk, l []deed) (int, api.Errno) {
	for i, o := range l {
		if e := o.on(d); e != api.OK {
			return i, e
		}
	}
	return len(l), api.OK
}

// with is a disk behind deeds that are all right.
func with(t *testing.T, l ...deed) *disk.Disk {
	t.Helper()
	d := disk.New()
	if n, e := run(d, l); e != api.OK {
		t.Fatalf("%v: %d", l[n], e)
	}
	return d
}

// fr is the frames of texts, by the words of layer 3.
func fr(texts ...string) string {
	var out []byte
	for _, s := range texts {
		count := binary.BigEndian.AppendUint32(nil, uint32(len(s)))
		check := crc32.Checksum([]byte(string(count)+s), crc32.MakeTable(crc32.Castagnoli))
		out = append(binary.BigEndian.AppendUint32(append(out, count...), check), s...)
	}
	return string(out)
}

// unfr is the texts of those frames of bytes that are right, up to the first that is not, and how many bytes these are.
func unfr(s string) ([]string, int) {
	var out []string
	at := 0
	for len(s)-at >= 8 {
		n := int(binary.BigEndian.Uint32([]byte(s[at:])))
		if n > len(s)-at-8 || fr(s[at+8:at+8+n]) != s[at:at+8+n] {
			break
		}
		out = append(out, s[at+8:at+8+n])
		at += 8 + n
	}
	return out, at
}

// log is what a log is asked, be it the program's or one by the words.
type log interface {
	Reset(snap string, records []string) api.Errno
	Add(records ...string) api.Errno
	Snap() string
	All() []string
	Len() int
	Segments() int
	Generation() int
}

// plain is a log by the document's words.
type plain struct {
	d       *disk.Disk
	most, g int
	snap    string
	all     []string
	segs    []int // how many bytes each segment has
}

func (p *plain) Snap() string    { return p.snap }
func (p *plain) All() []string   { return p.all }
func (p *plain) Len() int        { return len(p.all) }
func (p *plain) Segments() int   { return len(p.segs) }
func (p *plain) Generation() int { return p.g }

// others is the deeds by which all goes that begins with base- or seg-, and is not of a generation.
func others(names []string, g int) []deed {
	var out []deed
	for _, name := range names {
		of := name == fmt.Sprintf("base-%d", g) || strings.HasPrefix(name, fmt.Sprintf("seg-%d-", g))
		if !of && (strings.HasPrefix(name, "base-") || strings.HasPrefix(name, "seg-")) {
			out = append(out, rem(name))
		}
	}
	if out != nil {
		out = append(out, syn())
	}
	return out
}

// laying is the deeds by which a generation is laid on a disk of those names: the first four of them, then others go.
func laying(names []string, g int, snap string, records []string) []deed {
	base := fmt.Sprintf("base-%d", g)
	first := []deed{wri(base+".new", fr(append([]string{snap}, records...)...)), syn(), mov(base+".new", base), syn()}
	names = slices.DeleteFunc(slices.Clone(names), func(s string) bool { return s == base+".new" })
	return append(first, others(names, g)...)
}

func (p *plain) Reset(snap string, records []string) api.Errno {
	n, e := run(p.d, laying(p.d.Names(), p.g+1, snap, records))
	if n >= 4 {
		p.g, p.snap, p.all, p.segs = p.g+1, snap, slices.Clone(records), nil
	}
	return e
}

func (p *plain) Add(records ...string) api.Errno {
	segs := slices.Clone(p.segs)
	if len(segs) == 0 || segs[len(segs)-1] >= p.most {
		segs = append(segs, 0)
	}
	segs[len(segs)-1] += len(fr(records...))
	_, e := run(p.d, []deed{app(fmt.Sprintf("seg-%d-%d", p.g, len(segs)), fr(records...)), syn()})
	if e == api.OK {
		p.all, p.segs = append(slices.Clone(p.all), records...), segs
	}
	return e
}

// counts is the greatest generation that has a base.
func counts(names []string) int {
	g := 0
	for _, name := range names {
		if found := regexp.MustCompile(`^base-([1-9][0-9]*)$`).FindStringSubmatch(name); found != nil {
			n, _ := strconv.Atoi(found[1])
			g = max(g, n)
		}
	}
	return g
}

// plainOpen opens a disk by the words.
func plainOpen(d *disk.Disk, most int) (*plain, int, api.Errno) {
	if d == nil || most < 1 {
		return nil, 0, api.ErrArg
	}
	if d.Dead() {
		return nil, 0, api.ErrDead
	}
	p := &plain{d: d, most: most, g: counts(d.Names())}
	if p.g == 0 {
		if e := p.Reset("", nil); e != api.OK {
			return nil, 0, e
		}
		return p, 0, api.OK
	}
	base, _ := d.Read(fmt.Sprintf("base-%d", p.g))
	texts, right := unfr(base)
	if right < len(base) || right == 0 {
		return nil, 0, api.ErrForm
	}
	p.snap, p.all = texts[0], texts[1:]
	deeds, torn := p.segments()
	if _, e := run(d, append(deeds, others(d.Names(), p.g)...)); e != api.OK {
		return nil, 0, e
	}
	return p, torn, api.OK
}

// segments takes what there is in segments: the deeds by which what is torn goes, and how many bytes that is.
func (p *plain) segments() ([]deed, int) {
	var deeds []deed
	torn := 0
	for n := 1; ; n++ {
		name := fmt.Sprintf("seg-%d-%d", p.g, n)
		s, e := p.d.Read(name)
		if e != api.OK {
			return deeds, torn
		}
		if torn > 0 {
			deeds = append([]deed{rem(name), syn()}, deeds...)
			torn += len(s)
			continue
		}
		texts, right := unfr(s)
		p.all, p.segs = append(p.all, texts...), append(p.segs, right)
		if right < len(s) {
			deeds, torn = []deed{cut(name, right), syn()}, len(s)-right
		}
	}
}

// files is what a disk has, be it dead or not.
func files(d *disk.Disk) map[string]string {
	c := d.Clone()
	c.Up()
	out := map[string]string{}
	for _, name := range c.Names() {
		out[name], _ = c.Read(name)
	}
	return out
}

// sure is what a disk has behind a loss of power that keeps nothing that is loose.
func sure(d *disk.Disk) map[string]string {
	c := d.Clone()
	c.Crash(0, 0)
	return files(c)
}

// sameDisks tells what is unlike of two disks, or nothing.
func sameDisks(d, want *disk.Disk) string {
	switch {
	case d.Dead() != want.Dead():
		return fmt.Sprintf("the disk's Dead is %t", d.Dead())
	case !maps.Equal(files(d), files(want)):
		return fmt.Sprintf("the disk has %q, want %q", files(d), files(want))
	case !maps.Equal(sure(d), sure(want)):
		return fmt.Sprintf("the disk is sure of %q, want %q", sure(d), sure(want))
	case d.Changes() != want.Changes():
		return fmt.Sprintf("the disk had %d changes, want %d", d.Changes(), want.Changes())
	}
	return ""
}

// told is all that a log tells.
func told(l log) string {
	return fmt.Sprintf("snapshot %q, records %q, %d of them, %d segments, generation %d", l.Snap(), l.All(), l.Len(), l.Segments(), l.Generation())
}

// opened opens a disk that must be right.
func opened(t *testing.T, d *disk.Disk, most int) *wal.Log {
	t.Helper()
	l, _, e := wal.Open(d, most)
	if e != api.OK || l == nil {
		t.Fatalf("Open: %d of %q", e, files(d))
	}
	return l
}

// tells holds what a log tells against what it must.
func tells(t *testing.T, l log, snap string, all []string, segments, generation int) {
	t.Helper()
	want := fmt.Sprintf("snapshot %q, records %q, %d of them, %d segments, generation %d", snap, all, len(all), segments, generation)
	if got := told(l); got != want {
		t.Errorf("%s; want %s", got, want)
	}
}

// keeps is some of the ways in which loose files may be kept.
var keeps = []int{0, 1, 2, 3, 4, 5, 6, 9, 10, 12, 14, -1}

// doesSteps holds that a call makes just those changes and Syncs, in that order: it looks at the disk behind a loss of power at each of the changes, with files kept or not, and behind all.
func doesSteps(t *testing.T, d *disk.Disk, call func(*disk.Disk), steps ...deed) {
	t.Helper()
	many := 0
	for _, o := range steps {
		if o.kind != "Sync" {
			many++
		}
	}
	for k := range many + 1 {
		for _, keep := range keeps {
			for _, torn := range []int{0, 1, 5, 1000} {
				got, want := d.Clone(), d.Clone()
				plan := []api.Fall{{At: d.Changes() + k, Keep: keep, Torn: torn}}
				got.Plan(plan)
				want.Plan(plan)
				call(got)
				if _, e := run(want, steps); e != api.OK && e != api.ErrDead {
					t.Fatalf("%v: %d", steps, e)
				}
				if unlike := sameDisks(got, want); unlike != "" {
					t.Errorf("%d changes, then a fall that keeps %b, torn %d: %s", k, keep, torn, unlike)
					return
				}
			}
		}
	}
}

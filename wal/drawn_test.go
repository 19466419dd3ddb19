package wal_test

import (
	"fmt"
	"math/rand"
	"slices"
	"testing"

	"muniment/api"
	"muniment/disk"
)

// texts draws some texts.
func texts(r *rand.Rand) []string {
	var out []string
	for range r.Intn(4) {
		out = append(out, fmt.Sprintf("%x", r.Uint64())[:r.Intn(12)])
	}
	return out
}

// harms draws something that is done to a segment by others: more bytes, fewer, or another one.
func harms(r *rand.Rand, c *pair) {
	if c.l == nil || c.l.Segments() == 0 {
		return
	}
	name := fmt.Sprintf("seg-%d-%d", c.l.Generation(), 1+r.Intn(c.l.Segments()))
	how, at := r.Intn(3), r.Intn(30)
	c.both(func(d *disk.Disk) {
		s, _ := d.Read(name)
		switch {
		case how == 0:
			d.Append(name, "more"[:1+at%4])
		case len(s) > 0 && how == 1:
			d.Truncate(name, at%len(s))
		case len(s) > 0:
			at %= len(s)
			d.Write(name, s[:at]+string([]byte{s[at] ^ 4})+s[at+1:])
		}
		d.Crash(-1, 0)
		d.Up()
	})
	c.l, c.p = nil, nil
}

// Promises 12.1, 12.2: drawn calls, losses of power, shortness of room and harm, each held against a log by the words.
func TestDrawn(t *testing.T) {
	for seed := range 300 {
		r := rand.New(rand.NewSource(int64(seed)))
		d := disk.New()
		c := &pair{d: d, e: d.Clone()}
		for range 60 {
			if c.l == nil {
				c.up()
				c.opens(t, 1+r.Intn(60))
				continue
			}
			switch r.Intn(12) {
			case 0:
				snap, records := fmt.Sprint("s", r.Intn(100)), texts(r)
				c.does(t, func(l log) api.Errno { return l.Reset(snap, records) })
			case 1:
				c.plans(r.Intn(6), r.Intn(16), r.Intn(20))
			case 2:
				more := r.Intn(80) - 10
				c.both(func(d *disk.Disk) { d.Room(d.Used() + more) })
			case 3:
				c.both(func(d *disk.Disk) { d.Room(-1) })
			case 4:
				c.l, c.p = nil, nil
			case 5:
				c.up() // the same log goes on
			case 6:
				harms(r, c)
			default:
				records := texts(r)
				c.does(t, func(l log) api.Errno { return l.Add(records...) })
			}
		}
	}
}

// Promise 12.2: whatever falls, all records that were told of are there, and behind them at most those whose Add failed; or what was laid.
func TestDrawnFalls(t *testing.T) {
	for seed := range 300 {
		r := rand.New(rand.NewSource(int64(seed)))
		d := disk.New()
		may := []string{what("")}
		for range 30 {
			d.Up()
			d.Plan([]api.Fall{{At: d.Changes() + r.Intn(12), Keep: r.Intn(64), Torn: r.Intn(30)}})
			c := &pair{d: d, e: d.Clone()}
			if c.opens(t, 1+r.Intn(40)) != api.OK {
				continue
			}
			if got := content(c.l); !slices.Contains(may, got) {
				t.Fatalf("seed %d: %s, want one of %q", seed, got, may)
			}
			may = []string{content(c.l)}
			for range r.Intn(12) {
				snap, all, records := c.l.Snap(), c.l.All(), texts(r)
				wanted, call := what(snap, append(all, records...)...), func(l log) api.Errno { return l.Add(records...) }
				if r.Intn(4) == 0 {
					wanted, call = what("laid", records...), func(l log) api.Errno { return l.Reset("laid", records) }
				}
				if c.does(t, call) != api.OK {
					may = append(may, wanted)
					break
				}
				may = []string{wanted}
			}
			d.Crash(r.Intn(8), r.Intn(30))
		}
	}
}

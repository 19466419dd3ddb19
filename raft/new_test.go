package raft_test

import (
	"math"
	"testing"

	"muniment/api"
	"muniment/raft"
	"muniment/wire"
)

// Promise 14.1: New of one that may not be is ErrArg, whatever else is right; up to both ends of what may be it is a follower.
func TestNewOfWhatMayNotBe(t *testing.T) {
	right := api.Hard{Term: 3, Vote: 2, BaseIndex: 4, BaseTerm: 2, Base: "s", BaseConf: []int{0, 1}, Log: entries(3)}
	refused := func(me int, change func(h *api.Hard)) {
		t.Helper()
		h := right
		change(&h)
		if n, e := raft.New(me, h, nil); n != nil || e != api.ErrArg {
			t.Errorf("New(%d, %+v): %v, %d", me, h, n, e)
		}
	}
	taken := func(me int, change func(h *api.Hard)) {
		t.Helper()
		h := right
		change(&h)
		n := stands(t, me, h)
		at(t, "new", n, api.Follower, -1, h.Term, h.BaseIndex)
		is(t, "kept", n.Hard(), h)
	}
	as := func(*api.Hard) {}
	for _, me := range []int{-1, 16, 17, math.MinInt, math.MaxInt} {
		refused(me, as)
	}
	for me := range 16 {
		taken(me, as)
	}
	for _, k := range []int{-1, math.MinInt, 1 << 31, math.MaxInt} {
		refused(0, func(h *api.Hard) { h.Term = k })
		refused(0, func(h *api.Hard) { h.BaseIndex = k })
	}
	for _, k := range []int{0, 1, 1<<31 - 1} {
		taken(0, func(h *api.Hard) { h.Term = k })
		taken(0, func(h *api.Hard) { h.BaseIndex = k })
	}
	for _, k := range []int{-2, 16, math.MinInt, math.MaxInt} {
		refused(0, func(h *api.Hard) { h.Vote = k })
	}
	for k := -1; k < 16; k++ {
		taken(0, func(h *api.Hard) { h.Vote = k })
	}
}

// Promise 14.1: a follower, of nobody, that has committed the snapshot alone; who takes part is by the last entry that says so, committed or not, else by the snapshot.
func TestNew(t *testing.T) {
	for _, h := range []api.Hard{
		fresh(),
		fresh(0, 1, 2),
		kept([]int{0}, 1, 1, 2),
		{Term: 7, Vote: 3, BaseConf: []int{1, 3}},
		{Term: 7, Vote: -1, BaseIndex: 9, BaseTerm: 5, Base: long(500), BaseConf: []int{1, 3}},
		{Term: 7, Vote: 1, BaseIndex: 9, BaseTerm: 5, Base: "s", BaseConf: []int{1, 3}, Log: entries(5, 6, 7)},
	} {
		n := stands(t, 3, h, 4)
		at(t, "new", n, api.Follower, -1, h.Term, h.BaseIndex)
		is(t, "kept", n.Hard(), h)
		is(t, "members", n.Members(), h.BaseConf)
		for i := -2; i < 20; i++ {
			if e, there := n.Entry(i); there || text(e) != text(api.LogEntry{}) {
				t.Errorf("entry %d: %+v, %v", i, e, there)
			}
		}
	}
	h := behind(fresh(0, 1), api.LogEntry{S: "a"}, conf(0, 0, 1, 2), api.LogEntry{S: "b"}, conf(0, 0, 2), api.LogEntry{S: "c"})
	is(t, "members", stands(t, 0, h).Members(), []int{0, 2})
	h.Log = h.Log[:3]
	is(t, "members", stands(t, 0, h).Members(), []int{0, 1, 2})
}

// Rule R2: what is handed in is left as it was, and may be changed later; what is told is the caller's own.
func TestOwn(t *testing.T) {
	h := behind(kept([]int{0, 1, 2}), api.LogEntry{Term: 1, S: "a"}, conf(1, 0, 1, 2, 3))
	h.Term = 1
	draws := []int{3, 4, 5}
	w := twinOf(t, 0, h, draws)
	spoil := func(h api.Hard) {
		h.BaseConf[0], h.Log[0].S, h.Log[1].Members[1] = 9, "spoiled", 9
		h.Log[1] = api.LogEntry{}
	}
	spoil(h)
	draws[0], draws[1] = 17, 18
	w.holds(t, "new")
	spoil(w.n.Hard())
	w.n.Members()[0] = 9
	w.holds(t, "told")
	for range 13 {
		w.tick(t)
	}
	for _, who := range []int{1, 2} {
		for _, m := range w.step(t, voted(who, 0, 2, true)) {
			m.Entries = append(m.Entries, conf(9, 9))
		}
	}
	told := w.step(t, took(1, 0, 2, 0, false))
	told[0].Entries[0].S, told[0].Entries[1].Members[0] = "spoiled", 9
	w.holds(t, "told")
	w.step(t, took(1, 0, 2, 3, true))
	w.step(t, took(2, 0, 2, 3, true))
	e, _ := w.n.Entry(2)
	e.Members[0] = 9
	l := []int{0, 1, 2}
	w.change(t, []int{0, 1, 2})
	if _, _, yes := w.n.Change(l); yes {
		t.Error("two at once")
	}
	w.holds(t, "told")
}

// Rule R2: draws that are handed in are left as they were, and may be changed later.
func TestOwnDraws(t *testing.T) {
	draws := []int{-3, 4, 25}
	n := stands(t, 0, fresh(0, 1, 2), draws...)
	is(t, "left as they were", draws, []int{-3, 4, 25})
	draws[1], draws[2] = 17, 18
	waits(t, n, 27)
	waits(t, n, 14)
	waits(t, n, 15)
}

// Rule R2: entries and snapshots that are handed in by messages, and lists that are handed to Change, may be changed later.
func TestOwnOfMessages(t *testing.T) {
	n := stands(t, 1, fresh(0, 1, 2))
	l := []api.LogEntry{{Term: 1, S: "a"}, conf(1, 0, 1)}
	n.Step(appended(0, 1, 1, 0, 0, 2, l...))
	l[0].S, l[1].Members[0] = "spoiled", 9
	is(t, "kept", n.Hard().Log, []api.LogEntry{{Term: 1, S: "a"}, conf(1, 0, 1)})
	m := piece(0, 1, 1, 5, 1, 0, "s", true)
	n.Step(m)
	m.Members[0] = 9
	is(t, "kept", n.Hard(), api.Hard{Term: 1, Vote: -1, BaseIndex: 5, BaseTerm: 1, Base: "s", BaseConf: []int{1, 2, 3}})

	n = leader(t, 0, []int{0})
	who := []int{0, 1}
	_, told, _ := n.Change(who)
	who[1] = 9
	n.Compact(1, "s")
	told = append(told, n.Step(took(1, 0, 1, 0, false))...)
	for _, m := range told {
		for _, e := range m.Entries {
			e.Members[0] = 9
		}
		if len(m.Members) > 0 {
			m.Members[0] = 9
		}
	}
	is(t, "members", n.Members(), []int{0, 1})
	is(t, "at the snapshot", n.Hard().BaseConf, []int{0})
}

// Promise 14.1: a nil node answers nothing, 0, Leader -1, and Hard with the vote -1; so does one that New did not make.
func TestNilNode(t *testing.T) {
	for _, n := range []*raft.Node{nil, {}} {
		is(t, "kept", n.Hard(), api.Hard{Vote: -1})
		for _, m := range []api.RaftMsg{{}, appended(1, 0, 1, 0, 0, 0, entries(1)...), vote(1, 0, 5, 5, 5), voted(1, 0, 0, true), took(1, 0, 0, 1, true), piece(1, 0, 1, 1, 1, 0, "s", true), snapped(1, 0, 0, 1, 0, true)} {
			tells(t, "step", n.Step(m))
		}
		for range 50 {
			tells(t, "tick", n.Tick())
		}
		index, told, yes := n.Propose("x")
		is(t, "propose", []any{index, told, yes}, []any{0, []api.RaftMsg{}, false})
		index, told, yes = n.Change([]int{0})
		is(t, "change", []any{index, told, yes}, []any{0, []api.RaftMsg{}, false})
		e, there := n.Entry(0)
		is(t, "entry", []any{e, there, n.Compact(0, "s"), n.Compact(1, "s")}, []any{api.LogEntry{}, false, false, false})
		at(t, "nil", n, 0, -1, 0, 0)
		is(t, "members", n.Members(), []int{})
	}
	raft.Put(nil, appended(0, 1, 1, 0, 0, 0))
	raft.PutEntry(nil, conf(1, 2))
	is(t, "taken", raft.Take(nil), api.RaftMsg{})
	is(t, "taken", raft.TakeEntry(nil), api.LogEntry{})
	var r *wire.Reader
	is(t, "taken", raft.Take(r), api.RaftMsg{})
}

package raft_test

import (
	"fmt"
	"math/rand"
	"slices"
	"testing"

	"muniment/api"
	"muniment/raft"
)

// twin is a node, and one by the words, to which the same is done.
type twin struct {
	n *raft.Node
	p *plain
}

// twinOf is a twin that stands up.
func twinOf(t *testing.T, me int, h api.Hard, draws []int) *twin {
	t.Helper()
	n := stands(t, me, h, draws...)
	return &twin{n: n, p: newPlain(me, n.Hard(), slices.Clone(draws))}
}

// holds holds all that the two tell of themselves against one another.
func (w *twin) holds(t *testing.T, what string) {
	t.Helper()
	is(t, what+": kept", w.n.Hard(), w.p.hard())
	is(t, what+": members", w.n.Members(), w.p.members())
	at(t, what, w.n, w.p.role, w.p.leader, w.p.term, w.p.commit)
	for i := w.p.base - 1; i <= w.p.last()+1; i++ {
		e, there := w.n.Entry(i)
		f, here := w.p.entry(i)
		is(t, fmt.Sprint(what, ": entry ", i), []any{e, there}, []any{f, here})
	}
}

func (w *twin) tick(t *testing.T) []api.RaftMsg {
	t.Helper()
	out := w.n.Tick()
	is(t, "tick", out, w.p.tick())
	w.holds(t, "tick")
	return out
}

func (w *twin) step(t *testing.T, m api.RaftMsg) []api.RaftMsg {
	t.Helper()
	out := w.n.Step(m)
	is(t, fmt.Sprintf("step %+v", m), out, w.p.step(m))
	w.holds(t, fmt.Sprintf("step %+v", m))
	return out
}

func (w *twin) propose(t *testing.T, s string) []api.RaftMsg {
	t.Helper()
	at, out, yes := w.n.Propose(s)
	index, want, is2 := w.p.propose(s)
	is(t, "propose", []any{at, out, yes}, []any{index, want, is2})
	w.holds(t, "propose")
	return out
}

func (w *twin) change(t *testing.T, l []int) []api.RaftMsg {
	t.Helper()
	at, out, yes := w.n.Change(l)
	index, want, is2 := w.p.change(l)
	is(t, fmt.Sprint("change ", l), []any{at, out, yes}, []any{index, want, is2})
	w.holds(t, "change")
	return out
}

func (w *twin) compact(t *testing.T, index int, s string) {
	t.Helper()
	is(t, fmt.Sprint("compact ", index), w.n.Compact(index, s), w.p.compact(index, s))
	w.holds(t, "compact")
}

// draws draws some timeouts, whatever they are.
func draws(r *rand.Rand) []int {
	var out []int
	for range r.Intn(6) {
		out = append(out, r.Intn(100)-50)
	}
	return out
}

// someList draws who takes part, now and then who may not.
func someList(r *rand.Rand) []int {
	var l []int
	for who := range 5 {
		if r.Intn(3) > 0 {
			l = append(l, who)
		}
	}
	if r.Intn(20) == 0 {
		l = append(l, r.Intn(20))
	}
	return l
}

// someHard draws what somebody keeps.
func someHard(r *rand.Rand) api.Hard {
	h := api.Hard{Term: r.Intn(4), Vote: r.Intn(5) - 1, BaseConf: someList(r)}
	if r.Intn(2) == 0 {
		h.BaseIndex, h.BaseTerm, h.Base = r.Intn(6), r.Intn(h.Term+1), long(r.Intn(700))
	}
	term := h.BaseTerm
	for range r.Intn(25) {
		term = min(h.Term, term+r.Intn(2))
		h.Log = append(h.Log, someEntry(r, term))
	}
	return h
}

// someEntry draws an entry of a term, of few unlike ones.
func someEntry(r *rand.Rand, term int) api.LogEntry {
	if r.Intn(8) == 0 {
		return conf(term, someList(r)...)
	}
	return api.LogEntry{Term: term, S: fmt.Sprint("x", r.Intn(2))}
}

// someMessage draws a message to somebody, near to what that one has.
func someMessage(r *rand.Rand, p *plain) api.RaftMsg {
	m := api.RaftMsg{Kind: 1 + r.Intn(6), From: r.Intn(5), To: p.me, Term: max(0, p.term+r.Intn(4)-2), Yes: r.Intn(3) > 0, Done: r.Intn(2) == 0}
	m.Index = max(0, p.base-2+r.Intn(len(p.log)+6))
	m.LogTerm = min(m.Term, r.Intn(4))
	if m.Index >= p.base && m.Index <= p.last() && r.Intn(4) > 0 {
		m.LogTerm = min(m.Term, p.termAt(m.Index))
	}
	m.Commit = max(0, p.commit+r.Intn(8)-4)
	m.Offset = []int{0, len(p.got), len(p.got), r.Intn(500)}[r.Intn(4)]
	for i := range r.Intn(18) {
		e, there := p.log[m.Index+1+i]
		if !there || r.Intn(12) == 0 {
			e = someEntry(r, min(m.Term, r.Intn(4)))
		}
		m.Entries = append(m.Entries, e)
	}
	m.Piece = long(r.Intn(202))
	m.Members = someList(r)
	return m
}

// Promises 14.1, 14.2: all that is drawn at one replica, held against one by the words: whatever it keeps, and whatever it is told.
func TestDrawnAtOne(t *testing.T) {
	for seed := range 300 {
		r := rand.New(rand.NewSource(int64(seed)))
		w := twinOf(t, r.Intn(5), someHard(r), draws(r))
		w.holds(t, "new")
		for range 120 {
			switch r.Intn(8) {
			case 0, 1, 2:
				for range r.Intn(8) {
					w.tick(t)
				}
			case 3:
				w.propose(t, fmt.Sprint("p", r.Intn(2)))
			case 4:
				w.change(t, someList(r))
			case 5:
				w.compact(t, w.p.base+r.Intn(len(w.p.log)+2), long(r.Intn(700)))
			default:
				w.step(t, someMessage(r, w.p))
			}
			if w.p.role == api.Candidate && r.Intn(2) == 0 {
				w.step(t, voted(r.Intn(5), w.p.me, w.p.term, true))
			}
			if w.p.role == api.Leader && r.Intn(2) == 0 {
				w.step(t, took(r.Intn(5), w.p.me, w.p.term, w.p.last()-r.Intn(3), r.Intn(3) > 0))
			}
		}
	}
}

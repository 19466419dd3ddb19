package raft_test

import (
	"fmt"
	"slices"
	"testing"

	"muniment/api"
	"muniment/raft"
)

// Promise 14.1, Words (to take a message): a snapshot whose index is committed is had: yes and Done, and nothing is changed.
func TestSnapThatIsCommitted(t *testing.T) {
	for base := range 4 {
		for commit := base; commit <= 5; commit++ {
			for index := range commit + 1 {
				n := holder(t, base, commit)
				before := n.Hard()
				for _, m := range []api.RaftMsg{piece(2, 1, 3, index, 1, 0, "p", true), piece(2, 1, 3, index, 3, 0, "p", false), piece(2, 1, 3, index, 0, 77, "p", true)} {
					tells(t, text(m), n.Step(m), snapped(1, 2, 3, index, 0, true))
					is(t, text(m), n.Hard(), before)
					at(t, text(m), n, api.Follower, 2, 3, commit)
				}
			}
		}
	}
}

// Promise 14.1, Words (to take a message): pieces in order are put together, each answered with where they end; the last one lays the snapshot.
func TestSnapInOrder(t *testing.T) {
	for _, size := range []int{0, 1, 199, 200, 201, 400, 401, 1000} {
		s := long(size)
		n := stands(t, 1, fresh(0, 1))
		from := 0
		for from+200 < size {
			tells(t, "a piece", n.Step(piece(0, 1, 4, 9, 3, from, s[from:from+200], false)), snapped(1, 0, 4, 9, from+200, false))
			is(t, "nothing is laid", n.Hard(), api.Hard{Term: 4, Vote: -1, BaseConf: []int{0, 1}})
			from += 200
		}
		tells(t, "the last one", n.Step(piece(0, 1, 4, 9, 3, from, s[from:], true)), snapped(1, 0, 4, 9, 0, true))
		is(t, "laid", n.Hard(), api.Hard{Term: 4, Vote: -1, BaseIndex: 9, BaseTerm: 3, Base: s, BaseConf: []int{1, 2, 3}})
		at(t, "laid", n, api.Follower, 0, 4, 9)
		is(t, "members", n.Members(), []int{1, 2, 3})
		tells(t, "the last one again", n.Step(piece(0, 1, 4, 9, 3, from, s[from:], true)), snapped(1, 0, 4, 9, 0, true))
	}
}

// Promise 14.1, Words (to take a message): a piece that is not where they end is passed over, and answered with where they end: twice, out of order, the last one too early; of another leader they go on.
func TestSnapOutOfOrder(t *testing.T) {
	n := stands(t, 1, fresh(0, 1))
	does := func(m api.RaftMsg, offset int) {
		t.Helper()
		tells(t, text(m), n.Step(m), snapped(1, m.From, m.Term, m.Index, offset, false))
		is(t, text(m), n.Hard().BaseIndex, 0)
	}
	does(piece(0, 1, 1, 9, 1, 5, "x", false), 0)
	does(piece(0, 1, 1, 9, 1, 5, "x", true), 0)
	does(piece(0, 1, 1, 9, 1, 0, "abc", false), 3)
	does(piece(0, 1, 1, 9, 1, 0, "abc", false), 3)
	does(piece(0, 1, 1, 9, 1, 0, "abc", true), 3)
	does(piece(0, 1, 1, 9, 1, 4, "x", true), 3)
	does(piece(0, 1, 1, 9, 1, 2, "x", true), 3)
	does(piece(0, 1, 1, 9, 1, 3, "", false), 3)
	does(piece(0, 1, 1, 9, 1, 3, "de", false), 5)
	does(piece(0, 1, 1, 9, 1, 1<<31-1, "x", true), 5)
	does(piece(2, 1, 2, 9, 1, 5, "f", false), 6) // of another leader, and a higher term
	m := piece(2, 1, 2, 9, 1, 6, "g", true)
	m.Members = []int{4}
	tells(t, "the last one", n.Step(m), snapped(1, 2, 2, 9, 0, true))
	is(t, "laid", n.Hard(), api.Hard{Term: 2, Vote: -1, BaseIndex: 9, BaseTerm: 1, Base: "abcdefg", BaseConf: []int{4}})
}

// Promise 14.1, Words (to take a message): of another snapshot, by its index or its term, they begin anew, whatever the piece is; behind one that was laid, too.
func TestSnapOfAnotherSnapshot(t *testing.T) {
	for _, other := range []api.RaftMsg{piece(0, 1, 2, 8, 1, 0, "AB", false), piece(0, 1, 2, 10, 1, 0, "AB", false), piece(0, 1, 2, 9, 2, 0, "AB", false), piece(0, 1, 2, 9, 0, 0, "AB", false)} {
		n := stands(t, 1, fresh(0, 1))
		first := piece(0, 1, 2, 9, 1, 0, "abc", false)
		tells(t, "first", n.Step(first), snapped(1, 0, 2, 9, 3, false))
		tells(t, "other", n.Step(other), snapped(1, 0, 2, other.Index, 2, false))
		tells(t, "first again", n.Step(with(first, func(m *api.RaftMsg) { m.Offset = 3 })), snapped(1, 0, 2, 9, 0, false))
		tells(t, "other again", n.Step(with(other, func(m *api.RaftMsg) { m.Offset = 2 })), snapped(1, 0, 2, other.Index, 0, false))
		n.Step(other)
		last := with(other, func(m *api.RaftMsg) { m.Offset, m.Piece, m.Done = 2, "C", true })
		tells(t, "last", n.Step(last), snapped(1, 0, 2, other.Index, 0, true))
		is(t, "laid", n.Hard().Base, "ABC")
		next := piece(0, 1, 2, 20, 2, 0, "x", false)
		tells(t, "next", n.Step(next), snapped(1, 0, 2, 20, 1, false))
	}
	n := stands(t, 1, fresh(0, 1, 2))
	n.Step(piece(0, 1, 2, 9, 1, 0, "abc", false))
	n = stands(t, 1, n.Hard()) // its power failed: the pieces are gone
	tells(t, "from the first on", n.Step(piece(0, 1, 2, 9, 1, 3, "def", true)), snapped(1, 0, 2, 9, 0, false))
}

// Promise 14.1, Words (to take a message): entries behind a snapshot stay, if the one at its index has its term; else all go.
func TestSnapWithEntriesBehind(t *testing.T) {
	mine := entries(1, 1, 2, 2, 3)
	for base := range 4 {
		for index := base + 1; index < 8; index++ {
			for term := range 4 {
				n := holder(t, base, base)
				tells(t, "laid", n.Step(piece(0, 1, 3, index, term, 0, "new", true)), snapped(1, 0, 3, index, 0, true))
				want := api.Hard{Term: 3, Vote: -1, BaseIndex: index, BaseTerm: term, Base: "new", BaseConf: []int{1, 2, 3}}
				if index <= 5 && mine[index-1].Term == term {
					want.Log = mine[index:]
				}
				is(t, fmt.Sprint("base ", base, ", index ", index, ", term ", term), n.Hard(), want)
				is(t, "committed", n.Commit(), index)
			}
		}
	}
	n := stands(t, 1, behind(fresh(0, 1, 2), api.LogEntry{}, api.LogEntry{}, conf(0, 0, 1), api.LogEntry{}))
	n.Step(piece(0, 1, 0, 2, 0, 0, "s", true))
	is(t, "by the entry that stays", n.Members(), []int{0, 1})
	n.Step(piece(0, 1, 1, 3, 1, 0, "s", true))
	is(t, "by the snapshot", n.Members(), []int{1, 2, 3})
	m := piece(0, 1, 1, 4, 1, 0, "s", true)
	m.Members = nil
	n.Step(m)
	is(t, "nobody", n.Members(), []int{})
	ticks(t, n, 100)
}

// snapper leads, with a snapshot of so many bytes, and the others lack all.
func snapper(t *testing.T, size int) *raft.Node {
	t.Helper()
	n := stands(t, 0, api.Hard{Term: 6, Vote: -1, BaseIndex: 9, BaseTerm: 5, Base: long(size), BaseConf: []int{0, 1, 2}, Log: entries(6, 6)})
	leads(t, n)
	return n
}

// Promise 14.1, Words (a leader): whom the entry ahead of next is gone for is told pieces of the snapshot, from where that one said that it is, the last one with Done; and then the entries behind it.
func TestTellsPieces(t *testing.T) {
	for _, size := range []int{0, 1, 199, 200, 201, 400, 555} {
		n := snapper(t, size)
		h := n.Hard()
		tells(t, "the entry ahead is the snapshot's last one", n.Step(took(1, 0, 7, 9, false)), appended(0, 1, 7, 9, 5, 9, h.Log...))
		out := n.Step(took(1, 0, 7, 8, false))
		from := 0
		for {
			end := min(from+200, size)
			want := pieceOf(h, 0, 1, from, end, end == size)
			tells(t, "a piece", out, want)
			ticks(t, n, 2)
			tells(t, "a piece again", n.Tick(), want, appended(0, 2, 7, 12, 7, 9))
			if end == size {
				break
			}
			from = end
			out = n.Step(snapped(1, 0, 7, 9, from, false))
		}
		tells(t, "behind it", n.Step(snapped(1, 0, 7, 9, 0, true)), appended(0, 1, 7, 9, 5, 9, h.Log...))
		tells(t, "no more", n.Step(took(1, 0, 7, 12, true)))
		is(t, "committed", n.Commit(), 12)
	}
}

// Promise 14.1, Words (to take a message): a piece that is not Done is noted by where it ends, back and forth, for that one alone; one of another base is not; whoever has the entry ahead of next is told nothing.
func TestNotesPieces(t *testing.T) {
	n := snapper(t, 555)
	h := n.Hard()
	tells(t, "it lacks nothing yet", n.Step(snapped(1, 0, 7, 9, 300, false)))
	tells(t, "from there on", n.Step(took(1, 0, 7, 0, false)), pieceOf(h, 0, 1, 300, 500, false))
	tells(t, "of another one", n.Step(took(2, 0, 7, 0, false)), pieceOf(h, 0, 2, 0, 200, false))
	tells(t, "back", n.Step(snapped(1, 0, 7, 9, 0, false)), pieceOf(h, 0, 1, 0, 200, false))
	tells(t, "forth", n.Step(snapped(1, 0, 7, 9, 444, false)), pieceOf(h, 0, 1, 444, 555, true))
	for _, index := range []int{0, 8, 10} {
		tells(t, "of another base", n.Step(snapped(1, 0, 7, index, 7, false)))
	}
	tells(t, "of another one", n.Step(snapped(2, 0, 7, 9, 200, false)), pieceOf(h, 0, 2, 200, 400, false))
	tells(t, "at its end", n.Step(snapped(1, 0, 7, 9, 555, false)), pieceOf(h, 0, 1, 555, 555, true))
	out := n.Step(snapped(1, 0, 7, 9, 1<<31-1, false))
	if len(out) != 1 || out[0].Piece != "" || out[0].Kind != api.RaftSnap {
		t.Errorf("beyond its end: %+v", out)
	}
	no := snapped(1, 0, 7, 0, 0, false)
	no.Yes = false
	n.Step(snapped(1, 0, 7, 9, 200, false))
	tells(t, "a no", n.Step(no), pieceOf(h, 0, 1, 200, 400, false))
	is(t, "kept", n.Hard(), h)
}

// Promise 14.1, Words (a leader): what another one said to a leader of another term, or ahead of its going, does not count: its pieces begin with the first one.
func TestForgetsPieces(t *testing.T) {
	n := snapper(t, 555)
	n.Step(snapped(1, 0, 7, 9, 200, false))
	n.Step(voted(1, 0, 8, false))
	leads(t, n)
	tells(t, "in another term", n.Step(took(1, 0, 9, 0, false)), pieceOf(n.Hard(), 0, 1, 0, 200, false))
	n.Step(snapped(1, 0, 9, 9, 200, false))
	for _, l := range [][]int{{0, 2}, {0, 1, 2}} {
		commits(t, n, 2)
		if _, _, yes := n.Change(l); !yes {
			t.Fatal("no change")
		}
	}
	tells(t, "when it came again", n.Step(took(1, 0, 9, 0, false)), pieceOf(n.Hard(), 0, 1, 0, 200, false))
}

// Promise 14.1: Compact lays the snapshot of what is committed above BaseIndex, and BaseConf is who took part there; entries behind it stay.
func TestCompact(t *testing.T) {
	log := []api.LogEntry{{Term: 1}, conf(1, 0, 1, 2, 3), {Term: 1, S: "x"}, conf(2, 1, 2, 3), {Term: 3}, {Term: 3, S: "y"}}
	confs := [][]int{{0, 1, 2}, {0, 1, 2}, {0, 1, 2, 3}, {0, 1, 2, 3}, {1, 2, 3}, {1, 2, 3}, {1, 2, 3}}
	for base := range 6 {
		for commit := base; commit <= 6; commit++ {
			for index := -1; index < 9; index++ {
				h := api.Hard{Term: 3, Vote: -1, BaseIndex: base, Base: "old", BaseConf: confs[base], Log: log[base:]}
				if base > 0 {
					h.BaseTerm = log[base-1].Term
				}
				n := stands(t, 1, h)
				n.Step(appended(2, 1, 3, 6, 3, commit))
				what := fmt.Sprint("base ", base, ", committed ", commit, ", index ", index)
				want := index > base && index <= commit
				if got := n.Compact(index, "new"); got != want {
					t.Fatalf("%s: %v", what, got)
				}
				if want {
					h.BaseIndex, h.BaseTerm, h.Base, h.BaseConf, h.Log = index, log[index-1].Term, "new", confs[index], log[index:]
				}
				is(t, what, n.Hard(), h)
				is(t, what, n.Members(), []int{1, 2, 3})
				at(t, what, n, api.Follower, 2, 3, commit)
				for i := -1; i < 9; i++ {
					e, there := n.Entry(i)
					if there != (i > h.BaseIndex && i <= commit) || there && text(e) != text(log[i-1]) || !there && text(e) != text(api.LogEntry{}) {
						t.Errorf("%s: entry %d: %+v, %v", what, i, e, there)
					}
				}
			}
		}
	}
}

// Promise 14.1, Words (a leader): when a leader lays another snapshot those who lack what went are told it from its first byte on.
func TestCompactWhileItLeads(t *testing.T) {
	n := leader(t, 0, []int{0, 1, 2}, many(1, 20)...)
	n.Step(took(1, 0, 2, 4, false))
	n.Step(took(1, 0, 2, 21, true))
	if !n.Compact(10, long(333)) {
		t.Fatal("no snapshot")
	}
	h := n.Hard()
	tells(t, "the entry ahead is there", n.Step(took(2, 0, 2, 10, false)), appended(0, 2, 2, 10, 1, 21, h.Log...))
	tells(t, "it is gone", n.Step(took(2, 0, 2, 9, false)), pieceOf(h, 0, 2, 0, 200, false))
	tells(t, "on", n.Step(snapped(2, 0, 2, 10, 200, false)), pieceOf(h, 0, 2, 200, 333, true))
	if !n.Compact(21, long(777)) {
		t.Fatal("no snapshot")
	}
	h = n.Hard()
	is(t, "no entries", len(h.Log), 0)
	ticks(t, n, 2)
	tells(t, "another one", n.Tick(), appended(0, 1, 2, 21, 2, 21), pieceOf(h, 0, 2, 0, 200, false))
	tells(t, "the old one is had", n.Step(snapped(2, 0, 2, 10, 0, true)), pieceOf(h, 0, 2, 0, 200, false))
	tells(t, "of the old one", n.Step(snapped(2, 0, 2, 10, 200, false)))
	tells(t, "the new one is had", n.Step(snapped(2, 0, 2, 21, 0, true)))
	_, told, _ := n.Propose("x")
	e := api.LogEntry{Term: 2, S: "x"}
	tells(t, "propose", told, appended(0, 1, 2, 21, 2, 21, e), appended(0, 2, 2, 21, 2, 21, e))
}

// Promises 14.1, 14.3: a leader's snapshot comes to another one piece by piece, and then its entries.
func TestSnapFromOneToAnother(t *testing.T) {
	for _, size := range []int{0, 200, 1234} {
		a := snapper(t, size)
		b := stands(t, 1, fresh())
		net := a.Step(took(1, 0, 7, 0, false))
		for rounds := 0; len(net) > 0; rounds++ {
			m := net[0]
			net = net[1:]
			if m.To == 1 {
				net = append(net, b.Step(m)...)
			} else {
				net = append(net, a.Step(m)...)
			}
			if rounds > 50 {
				t.Fatal("no end")
			}
		}
		h, k := a.Hard(), b.Hard()
		is(t, "the same", []any{k.BaseIndex, k.BaseTerm, k.Base, k.BaseConf, k.Log}, []any{h.BaseIndex, h.BaseTerm, h.Base, h.BaseConf, h.Log})
		is(t, "committed", []int{a.Commit(), b.Commit()}, []int{12, 9})
		if !slices.Equal(b.Members(), []int{0, 1, 2}) {
			t.Error(b.Members())
		}
	}
}

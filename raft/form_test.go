package raft_test

import (
	"fmt"
	"slices"
	"strings"
	"testing"

	"muniment/api"
	"muniment/raft"
)

// text is anything as a text, in which a list that is empty and one that is nil are the same.
func text(x any) string { return fmt.Sprintf("%+v", x) }

// is holds that two things are the same.
func is(t *testing.T, what string, got, want any) {
	t.Helper()
	if text(got) != text(want) {
		t.Fatalf("%s: %.3000s\nwant %.3000s", what, text(got), text(want))
	}
}

// tells holds what is told.
func tells(t *testing.T, what string, got []api.RaftMsg, want ...api.RaftMsg) {
	t.Helper()
	is(t, what, got, want)
}

// stands is a node that stands up.
func stands(t *testing.T, me int, h api.Hard, draws ...int) *raft.Node {
	t.Helper()
	n, e := raft.New(me, h, draws)
	if e != api.OK || n == nil {
		t.Fatalf("New(%d, %+v, %v): %d", me, h, draws, e)
	}
	return n
}

// fresh is what somebody has who never stood up, where these take part.
func fresh(l ...int) api.Hard { return api.Hard{Vote: -1, BaseConf: l} }

// entries is entries of these terms, with unlike texts.
func entries(terms ...int) []api.LogEntry {
	var out []api.LogEntry
	for i, term := range terms {
		out = append(out, api.LogEntry{Term: term, S: fmt.Sprint("s", i+1)})
	}
	return out
}

// kept is what somebody has who has entries of these terms, and whose term is that of the last one.
func kept(l []int, terms ...int) api.Hard {
	h := fresh(l...)
	h.Log = entries(terms...)
	for _, term := range terms {
		h.Term = max(h.Term, term)
	}
	return h
}

// conf is an entry that says who takes part.
func conf(term int, l ...int) api.LogEntry { return api.LogEntry{Term: term, Conf: true, Members: l} }

// many is a term so many times.
func many(term, times int) []int { return slices.Repeat([]int{term}, times) }

// ticks lets so many ticks pass, in which nothing is told, and the role stays.
func ticks(t *testing.T, n *raft.Node, many int) {
	t.Helper()
	role, term := n.Role(), n.Term()
	for i := range many {
		if out := n.Tick(); len(out) != 0 || n.Role() != role || n.Term() != term {
			t.Fatalf("tick %d of %d: told %+v, role %d, term %d", i+1, many, out, n.Role(), n.Term())
		}
	}
}

// standsFor lets ticks pass till it is a candidate, or leads: what it tells.
func standsFor(t *testing.T, n *raft.Node) []api.RaftMsg {
	t.Helper()
	term := n.Term()
	for range 30 {
		if out := n.Tick(); n.Term() == term+1 {
			return out
		}
	}
	t.Fatalf("no candidate: role %d, term %d", n.Role(), n.Term())
	return nil
}

// leads lets one lead, with a yes of all others: what it tells then.
func leads(t *testing.T, n *raft.Node) []api.RaftMsg {
	t.Helper()
	out := standsFor(t, n)
	for _, m := range out {
		if n.Role() == api.Leader {
			break
		}
		out = n.Step(voted(m.To, m.From, n.Term(), true))
	}
	if n.Role() != api.Leader {
		t.Fatalf("role %d", n.Role())
	}
	return out
}

// leader is one of these that leads, with entries of these terms.
func leader(t *testing.T, me int, l []int, terms ...int) *raft.Node {
	t.Helper()
	n := stands(t, me, kept(l, terms...))
	leads(t, n)
	return n
}

// appended is the entries that a leader tells.
func appended(from, to, term, index, logTerm, commit int, l ...api.LogEntry) api.RaftMsg {
	return api.RaftMsg{Kind: api.RaftAppend, From: from, To: to, Term: term, Index: index, LogTerm: logTerm, Commit: commit, Entries: l}
}

// took is the answer to entries.
func took(from, to, term, index int, yes bool) api.RaftMsg {
	return api.RaftMsg{Kind: api.RaftAppended, From: from, To: to, Term: term, Index: index, Yes: yes}
}

// vote is what asks for a vote.
func vote(from, to, term, index, logTerm int) api.RaftMsg {
	return api.RaftMsg{Kind: api.RaftVote, From: from, To: to, Term: term, Index: index, LogTerm: logTerm}
}

// voted is the answer to it.
func voted(from, to, term int, yes bool) api.RaftMsg {
	return api.RaftMsg{Kind: api.RaftVoted, From: from, To: to, Term: term, Yes: yes}
}

// piece is a piece of a snapshot, in which 1, 2 and 3 take part.
func piece(from, to, term, index, logTerm, offset int, s string, done bool) api.RaftMsg {
	return api.RaftMsg{Kind: api.RaftSnap, From: from, To: to, Term: term, Index: index, LogTerm: logTerm, Offset: offset, Piece: s, Done: done, Members: []int{1, 2, 3}}
}

// snapped is the answer to a piece.
func snapped(from, to, term, index, offset int, done bool) api.RaftMsg {
	return api.RaftMsg{Kind: api.RaftSnapped, From: from, To: to, Term: term, Index: index, Offset: offset, Yes: true, Done: done}
}

// long is a text of so many bytes.
func long(n int) string { return strings.Repeat("abcdefghijklm", n/13+1)[:n] }

// at holds the role, the leader, the term and what is committed.
func at(t *testing.T, what string, n *raft.Node, role, leader, term, commit int) {
	t.Helper()
	is(t, what+": role, leader, term, commit", []int{n.Role(), n.Leader(), n.Term(), n.Commit()}, []int{role, leader, term, commit})
}

// commits lets a leader of three learn from another one that it has all, and tells that it is committed.
func commits(t *testing.T, n *raft.Node, by ...int) {
	t.Helper()
	h := n.Hard()
	last := h.BaseIndex + len(h.Log)
	for _, who := range by {
		n.Step(took(who, me(n), n.Term(), last, true))
	}
	if n.Commit() != last {
		t.Fatalf("committed %d, want %d", n.Commit(), last)
	}
}

// me is a leader's number.
func me(n *raft.Node) int { return n.Leader() }

// behind is what somebody keeps with other entries.
func behind(h api.Hard, l ...api.LogEntry) api.Hard {
	h.Log = l
	return h
}

// candidate is the first of three, as a candidate of the term 1.
func candidate(t *testing.T) *raft.Node {
	t.Helper()
	n := stands(t, 0, fresh(0, 1, 2))
	standsFor(t, n)
	return n
}

// follower is the first of three, as one that follows the second one in the term 1.
func follower(t *testing.T) *raft.Node {
	t.Helper()
	n := stands(t, 0, fresh(0, 1, 2))
	n.Step(appended(1, 0, 1, 0, 0, 0))
	return n
}

// pieceOf is the piece that a leader tells of its snapshot.
func pieceOf(h api.Hard, from, to, at, end int, done bool) api.RaftMsg {
	m := piece(from, to, h.Term, h.BaseIndex, h.BaseTerm, at, h.Base[at:end], done)
	m.Members = h.BaseConf
	return m
}

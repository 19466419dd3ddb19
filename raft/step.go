package raft

import (
	"muniment/api"
)

// pieces is a snapshot that is not whole yet.
type pieces struct {
	index, term int
	s           string
}

// Step takes a message.
func (n *Node) Step(m api.RaftMsg) []api.RaftMsg {
	if n.none() || !Check(m) || m.To != n.me {
		return nil
	}
	if m.Kind == api.RaftVote && n.deaf() {
		return nil
	}
	if m.Term > n.kept.Term {
		n.follow(m.Term, nobody)
	}
	answer := n.answerTo(m.Kind)
	return answer(m)
}

// answerTo is what answers messages of a kind.
func (n *Node) answerTo(kind int) func(api.RaftMsg) []api.RaftMsg {
	switch kind {
	case api.RaftVote:
		return n.takeVote
	case api.RaftVoted:
		return n.takeVoted
	case api.RaftAppend:
		return n.takeAppend
	case api.RaftAppended:
		return n.takeAppended
	case api.RaftSnap:
		return n.takeSnap
	}
	return n.takeSnapped
}

// takeAppend answers a leader that tells entries.
func (n *Node) takeAppend(m api.RaftMsg) []api.RaftMsg {
	out := n.message(api.RaftAppended, m.From)
	if m.Term < n.kept.Term {
		return []api.RaftMsg{out}
	}
	n.follow(m.Term, m.From)
	end := m.Index + len(m.Entries)
	fresh := n.fresh(m)
	against := end-len(fresh) < n.commit && len(fresh) > 0
	if !n.has(m.Index, m.LogTerm) || against {
		out.Index = min(n.last(), max(m.Index-1, 0))
		return []api.RaftMsg{out}
	}
	if len(fresh) > 0 {
		n.kept.Log = append(n.upTo(end-len(fresh)), cloneEntries(fresh)...)
	}
	n.commit = max(n.commit, min(m.Commit, end))
	out.Yes, out.Index = true, end
	return []api.RaftMsg{out}
}

// fresh is the entries of a message from the first one on that is not there yet.
func (n *Node) fresh(m api.RaftMsg) []api.LogEntry {
	for i, e := range m.Entries {
		index := m.Index + i + 1
		if index > n.last() || (index > n.kept.BaseIndex && !same(n.entry(index), e)) {
			return m.Entries[i:]
		}
	}
	return nil
}

// takeSnap answers a leader that tells a piece of a snapshot.
func (n *Node) takeSnap(m api.RaftMsg) []api.RaftMsg {
	out := n.message(api.RaftSnapped, m.From)
	if m.Term < n.kept.Term {
		return []api.RaftMsg{out}
	}
	n.follow(m.Term, m.From)
	out.Yes, out.Index = true, m.Index
	out.Done = m.Index <= n.commit || n.together(m)
	if !out.Done {
		out.Offset = len(n.parts.s)
	}
	return []api.RaftMsg{out}
}

// together puts a piece behind those that are there, and lays the snapshot if it is the last one: whether it is laid.
func (n *Node) together(m api.RaftMsg) bool {
	if n.parts.index != m.Index || n.parts.term != m.LogTerm {
		n.parts = pieces{index: m.Index, term: m.LogTerm}
	}
	if m.Offset != len(n.parts.s) {
		return false
	}
	n.parts.s += m.Piece
	if !m.Done {
		return false
	}
	n.lay(m, n.parts.s)
	n.commit = m.Index
	n.parts = pieces{}
	return true
}

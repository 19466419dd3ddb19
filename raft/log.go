package raft

import (
	"slices"

	"muniment/api"
	"muniment/conf"
)

// last is the index of the last entry.
func (n *Node) last() int { return n.kept.BaseIndex + len(n.kept.Log) }

// entry is the entry at an index behind the snapshot.
func (n *Node) entry(index int) api.LogEntry { return n.kept.Log[index-n.kept.BaseIndex-1] }

// termAt is the term of the entry at an index from the snapshot's last one on.
func (n *Node) termAt(index int) int {
	if index == n.kept.BaseIndex {
		return n.kept.BaseTerm
	}
	return n.entry(index).Term
}

// has tells whether there is an entry of a term at an index; what a snapshot holds was committed, and so is the same everywhere.
func (n *Node) has(index, term int) bool {
	if index < n.kept.BaseIndex {
		return true
	}
	return index <= n.last() && n.termAt(index) == term
}

// upTo is the entries up to an index, without room for more behind them.
func (n *Node) upTo(index int) []api.LogEntry {
	many := index - n.kept.BaseIndex
	return n.kept.Log[:many:many]
}

// from is the entries from an index on, as many as one message may have.
func (n *Node) from(index int) []api.LogEntry {
	at := index - n.kept.BaseIndex - 1
	end := min(at+mostEntries, len(n.kept.Log))
	return cloneEntries(n.kept.Log[at:end:end])
}

// latest is who takes part, and the index of the entry that says so.
func (n *Node) latest() ([]int, int) {
	l, place := conf.Latest(n.kept.BaseConf, n.kept.Log)
	return l, n.kept.BaseIndex + place
}

// latestUpTo is who takes part by the entries up to an index.
func (n *Node) latestUpTo(index int) []int {
	l, _ := conf.Latest(n.kept.BaseConf, n.upTo(index))
	return l
}

// lay puts a snapshot, told of by a message, in the place of all up to its index.
func (n *Node) lay(m api.RaftMsg, s string) {
	var behind []api.LogEntry
	if m.Index <= n.last() && n.termAt(m.Index) == m.LogTerm {
		behind = slices.Clone(n.kept.Log[m.Index-n.kept.BaseIndex:]) // of its own, lest what went stays in memory
	}
	n.kept.Log = behind
	n.kept.BaseIndex, n.kept.BaseTerm = m.Index, m.LogTerm
	n.kept.Base, n.kept.BaseConf = s, slices.Clone(m.Members)
	clear(n.ends) // they are places in the snapshot that was
}

// same tells whether two entries are the same.
func same(a, b api.LogEntry) bool {
	return a.Term == b.Term && a.S == b.S && a.Conf == b.Conf && slices.Equal(a.Members, b.Members)
}

// cloneEntry is an entry of its own.
func cloneEntry(e api.LogEntry) api.LogEntry {
	e.Members = slices.Clone(e.Members)
	return e
}

// cloneEntries is a list of entries of its own.
func cloneEntries(l []api.LogEntry) []api.LogEntry {
	out := slices.Clone(l)
	for i, e := range out {
		out[i] = cloneEntry(e)
	}
	return out
}

// cloneHard is what is kept, as one of its own.
func cloneHard(h api.Hard) api.Hard {
	h.BaseConf = slices.Clone(h.BaseConf)
	h.Log = cloneEntries(h.Log)
	return h
}

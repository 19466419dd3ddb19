package raft

import (
	"muniment/api"
	"muniment/head"
	"muniment/wire"
)

const mostText = 1 << 20 // bytes of an entry's text

// isReplica tells whether a number is a replica's.
func isReplica(who int) bool { return who >= 0 && who < api.MaxReplicas }

// isCount tells whether a number may be a term, an index or a count.
func isCount(k int) bool { return k >= 0 && k <= highest }

// Check tells whether a message may be.
func Check(m api.RaftMsg) bool {
	for _, k := range [...]int{m.Term, m.Index, m.LogTerm, m.Commit, m.Offset} {
		if !isCount(k) {
			return false
		}
	}
	kind := m.Kind >= api.RaftVote && m.Kind <= api.RaftSnapped
	two := isReplica(m.From) && isReplica(m.To) && m.From != m.To
	return kind && two && m.LogTerm <= m.Term && len(m.Entries) <= mostEntries && len(m.Piece) <= api.ChunkBytes
}

// PutEntry puts an entry.
func PutEntry(w *wire.Writer, e api.LogEntry) {
	w.Count(e.Term)
	w.Bool(e.Conf)
	if e.Conf {
		head.PutMembers(w, e.Members)
	} else {
		w.Text(e.S)
	}
}

// TakeEntry takes an entry.
func TakeEntry(r *wire.Reader) api.LogEntry {
	e := api.LogEntry{Term: r.Count(highest), Conf: r.Bool()}
	if e.Conf {
		e.Members = head.TakeMembers(r)
	} else {
		e.S = r.Text(mostText)
	}
	if r.Err() != api.OK {
		return api.LogEntry{}
	}
	return e
}

// Put puts a message.
func Put(w *wire.Writer, m api.RaftMsg) {
	for _, k := range [...]int{m.Kind, m.From, m.To, m.Term, m.Index, m.LogTerm, m.Commit, m.Offset} {
		w.Count(k)
	}
	w.Bool(m.Yes)
	w.Bool(m.Done)
	w.Count(len(m.Entries))
	for _, e := range m.Entries {
		PutEntry(w, e)
	}
	w.Text(m.Piece)
	w.Bool(len(m.Members) > 0)
	if len(m.Members) > 0 {
		head.PutMembers(w, m.Members)
	}
}

// Take takes a message.
func Take(r *wire.Reader) api.RaftMsg {
	var counts [8]int
	for i := range counts {
		counts[i] = r.Count(highest)
	}
	m := api.RaftMsg{Kind: counts[0], From: counts[1], To: counts[2], Term: counts[3]}
	m.Index, m.LogTerm, m.Commit, m.Offset = counts[4], counts[5], counts[6], counts[7]
	m.Yes, m.Done = r.Bool(), r.Bool()
	for range r.Count(mostEntries) {
		m.Entries = append(m.Entries, TakeEntry(r))
	}
	m.Piece = r.Text(highest) // as long as it is: whether it may be, Check tells
	if r.Bool() {
		m.Members = head.TakeMembers(r)
	}
	if r.Err() != api.OK {
		return api.RaftMsg{}
	}
	return m
}

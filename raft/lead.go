package raft

import (
	"slices"

	"muniment/api"
	"muniment/conf"
	"muniment/head"
)

const (
	mostEntries = 16 // of one message
	speakTicks  = 3  // a leader speaks each time behind as many
)

// message is the frame of what it tells another one.
func (n *Node) message(kind, to int) api.RaftMsg {
	return api.RaftMsg{Kind: kind, From: n.me, To: to, Term: n.kept.Term}
}

// toOthers is what a method makes for each other one that takes part.
func (n *Node) toOthers(of func(who int) api.RaftMsg) []api.RaftMsg {
	var out []api.RaftMsg
	for _, who := range n.Members() {
		if who != n.me {
			out = append(out, of(who))
		}
	}
	return out
}

// lead makes it the leader.
func (n *Node) lead() []api.RaftMsg {
	n.role, n.leader, n.ticks = api.Leader, n.me, 0
	clear(n.next)
	clear(n.had)
	clear(n.ends)
	_, told := n.add(api.LogEntry{Term: n.kept.Term})
	return told
}

// speak tells all others, each time behind some ticks.
func (n *Node) speak() []api.RaftMsg {
	if n.ticks < speakTicks {
		return nil
	}
	n.ticks = 0
	return n.toOthers(n.tell)
}

// add puts an entry behind a leader's log: its index, and what tells all others of it.
func (n *Node) add(e api.LogEntry) (int, []api.RaftMsg) {
	n.kept.Log = append(n.kept.Log, e)
	n.meet()
	n.settle()
	return n.last(), n.toOthers(n.tell)
}

// meet lets those that come begin behind its last entry; of those that go nothing is known any more, lest it is held for true when they come again.
func (n *Node) meet() {
	l := n.Members()
	for who := range api.MaxReplicas {
		if !conf.Has(l, who) {
			delete(n.next, who)
			delete(n.had, who)
			delete(n.ends, who)
		}
	}
	for _, who := range l {
		if n.next[who] == 0 && who != n.me {
			n.next[who] = n.last() + 1
		}
	}
}

// tell is what another one is told: entries, or a piece of the snapshot if those ahead are gone.
func (n *Node) tell(who int) api.RaftMsg {
	if n.lacksAhead(who) {
		return n.piece(who)
	}
	m := n.message(api.RaftAppend, who)
	m.Index = n.next[who] - 1
	m.LogTerm = n.termAt(m.Index)
	m.Entries = n.from(n.next[who])
	m.Commit = n.commit
	return m
}

// lacksAhead tells whether the entry ahead of what another one is told next is gone.
func (n *Node) lacksAhead(who int) bool { return n.next[who]-1 < n.kept.BaseIndex }

// piece is a piece of the snapshot, from where another one's pieces end.
func (n *Node) piece(who int) api.RaftMsg {
	s := n.kept.Base
	from := min(n.ends[who], len(s)) // what another one says may be beyond it
	end := min(from+api.ChunkBytes, len(s))
	m := n.message(api.RaftSnap, who)
	m.Index, m.LogTerm = n.kept.BaseIndex, n.kept.BaseTerm
	m.Members = slices.Clone(n.kept.BaseConf)
	m.Offset, m.Piece, m.Done = from, s[from:end], end == len(s)
	return m
}

// settle commits what more than half have; a leader that takes part no more by what is committed follows.
func (n *Node) settle() {
	for i := n.mostHave(); i > n.commit; i-- {
		if n.termAt(i) == n.kept.Term {
			n.commit = i
		}
	}
	l, at := n.latest()
	if at <= n.commit && !conf.Has(l, n.me) {
		n.follow(n.kept.Term, nobody)
	}
}

// mostHave is the greatest index that more than half of those that take part have.
func (n *Node) mostHave() int {
	var l []int
	for _, who := range n.Members() {
		l = append(l, n.hadBy(who))
	}
	slices.Sort(l)
	return l[len(l)-head.Most(len(l))] // some take part, or it would not lead
}

// hadBy is the greatest index that somebody is known to have.
func (n *Node) hadBy(who int) int {
	if who == n.me {
		return n.last()
	}
	return n.had[who]
}

// answersLeader tells whether a message answers what it tells as a leader, by one that takes part.
func (n *Node) answersLeader(m api.RaftMsg) bool {
	return n.role == api.Leader && m.Term == n.kept.Term && conf.Has(n.Members(), m.From)
}

// takeAppended takes the answer to entries.
func (n *Node) takeAppended(m api.RaftMsg) []api.RaftMsg {
	if !n.answersLeader(m) {
		return nil
	}
	if !m.Yes {
		return n.goBack(m)
	}
	return n.goOn(m)
}

// takeSnapped takes the answer to a piece of a snapshot.
func (n *Node) takeSnapped(m api.RaftMsg) []api.RaftMsg {
	if !m.Yes || m.Done {
		return n.takeAppended(m)
	}
	if !n.answersLeader(m) || m.Index != n.kept.BaseIndex {
		return nil
	}
	n.ends[m.From] = m.Offset
	if !n.lacksAhead(m.From) {
		return nil
	}
	return []api.RaftMsg{n.tell(m.From)}
}

// goBack tells another one what is further ahead.
func (n *Node) goBack(m api.RaftMsg) []api.RaftMsg {
	n.next[m.From] = max(n.had[m.From]+1, min(n.next[m.From]-1, m.Index+1))
	return []api.RaftMsg{n.tell(m.From)}
}

// goOn notes what another one has, and tells it what it lacks.
func (n *Node) goOn(m api.RaftMsg) []api.RaftMsg {
	had := max(n.had[m.From], min(m.Index, n.last())) // nobody can be known to have what is not there
	n.had[m.From] = had
	n.next[m.From] = max(n.next[m.From], had+1)
	n.settle()
	if n.role != api.Leader || n.next[m.From] > n.last() {
		return nil
	}
	return []api.RaftMsg{n.tell(m.From)}
}

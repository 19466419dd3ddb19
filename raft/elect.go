package raft

import (
	"muniment/api"
	"muniment/conf"
)

const (
	leastWait = 10 // ticks; for as long whoever heard of a leader hears of no other one that would lead, too
	spread    = 20 // how many waits there are
	perMe     = 7  // what parts the waits when no draw is left
	perTerm   = 3
)

// begin lets the waiting begin anew.
func (n *Node) begin() {
	n.ticks, n.wait = 0, leastWait+n.draw()
}

// draw is the next draw, from 0 on.
func (n *Node) draw() int {
	if len(n.draws) == 0 {
		return (perMe*n.me + perTerm*n.kept.Term) % spread
	}
	d := n.draws[0] % spread
	n.draws = n.draws[1:]
	if d < 0 {
		d += spread
	}
	return d
}

// stand makes it a candidate, if it may be one.
func (n *Node) stand() []api.RaftMsg {
	if !n.mayStand() {
		n.begin()
		return nil
	}
	n.kept.Term++
	n.kept.Vote = n.me
	n.role, n.leader = api.Candidate, nobody
	n.begin()
	clear(n.votes)
	return n.count(n.me)
}

// mayStand tells whether it takes part by the last entry that says who does, or, while that one may still go, by what stood ahead of it.
func (n *Node) mayStand() bool {
	l, at := n.latest()
	if conf.Has(l, n.me) {
		return true
	}
	return at > n.commit && conf.Has(n.latestUpTo(at-1), n.me)
}

// count notes a yes to a candidate; its own lets it ask the others.
func (n *Node) count(who int) []api.RaftMsg {
	n.votes[who] = true
	if conf.Most(n.Members(), n.votes) {
		return n.lead()
	}
	if who != n.me {
		return nil
	}
	return n.toOthers(n.ask)
}

// ask is what asks another one for its vote.
func (n *Node) ask(who int) api.RaftMsg {
	m := n.message(api.RaftVote, who)
	m.Index = n.last()
	m.LogTerm = n.termAt(m.Index)
	return m
}

// follow makes it a follower in a term, of a leader or of nobody.
func (n *Node) follow(term, leader int) {
	if term > n.kept.Term {
		n.kept.Term, n.kept.Vote = term, nobody
	}
	goesOn := n.role == api.Follower && leader == nobody // else one whose term rises again and again would never stand
	n.role, n.leader = api.Follower, leader
	if leader != nobody {
		n.quiet = 0
	}
	if !goesOn {
		n.begin()
	}
}

// deaf tells whether it has a leader of which it heard lately, so that one that takes part no more disturbs nobody.
func (n *Node) deaf() bool {
	return n.role == api.Leader || (n.leader != nobody && n.quiet < leastWait)
}

// takeVote answers one that asks for its vote.
func (n *Node) takeVote(m api.RaftMsg) []api.RaftMsg {
	free := n.kept.Vote == nobody || n.kept.Vote == m.From
	out := n.message(api.RaftVoted, m.From)
	out.Yes = m.Term == n.kept.Term && free && !n.isNewerThan(m)
	if out.Yes {
		n.kept.Vote = m.From
		n.ticks = 0
	}
	return []api.RaftMsg{out}
}

// isNewerThan tells whether its last entry is newer than that of one that asks.
func (n *Node) isNewerThan(m api.RaftMsg) bool {
	term := n.termAt(n.last())
	return term > m.LogTerm || (term == m.LogTerm && n.last() > m.Index)
}

// takeVoted takes the answer to what it asked for as a candidate.
func (n *Node) takeVoted(m api.RaftMsg) []api.RaftMsg {
	if n.role != api.Candidate || !m.Yes || m.Term != n.kept.Term {
		return nil
	}
	return n.count(m.From)
}

package raft_test

import (
	"math"
	"testing"

	"muniment/api"
	"muniment/raft"
)

// waits holds that one becomes a candidate at just this tick from now on.
func waits(t *testing.T, n *raft.Node, many int) {
	t.Helper()
	ticks(t, n, many-1)
	term := n.Term()
	n.Tick()
	if n.Role() != api.Candidate || n.Term() != term+1 || n.Leader() != -1 {
		t.Fatalf("behind %d ticks: role %d, term %d, leader %d", many, n.Role(), n.Term(), n.Leader())
	}
}

// Promise 14.1, Words (waiting): 10 ticks and a draw modulo 20, from 0 on; a follower, and then a candidate again and again.
func TestWaitsByDraws(t *testing.T) {
	var draws, want []int
	for d := -45; d < 65; d++ {
		draws = append(draws, d)
		k := d
		for k < 0 {
			k += 20
		}
		want = append(want, 10+k%20)
	}
	draws = append(draws, math.MaxInt, math.MinInt)
	want = append(want, 10+math.MaxInt%20, 10+20+math.MinInt%20)
	n := stands(t, 2, fresh(0, 1, 2), draws...)
	for _, many := range want {
		waits(t, n, many)
	}
	waits(t, n, 10+(14+3*n.Term())%20)
}

// Promise 14.1, Words (waiting): with no draw left 7 me + 3 term modulo 20, by the term that it then has.
func TestWaitsWithoutDraws(t *testing.T) {
	for me := range 16 {
		for term := range 40 {
			h := fresh(0, 1, 2, me)
			h.Term = term
			n := stands(t, me, h)
			waits(t, n, 10+(7*me+3*term)%20)
			waits(t, n, 10+(7*me+3*(term+1))%20)
			n = stands(t, me, h, 5)
			waits(t, n, 15)
			waits(t, n, 10+(7*me+3*(term+1))%20)
		}
	}
	h := fresh(1, 2)
	h.Term = 1<<31 - 1
	waits(t, stands(t, 1, h), 10+(7+3*(1<<31-1))%20)
}

// Promise 14.1, Words (waiting): a follower that hears a leader begins anew with a draw, whatever it answers; entries and pieces alike.
func TestHearingBeginsAnew(t *testing.T) {
	for _, m := range []api.RaftMsg{
		appended(0, 1, 0, 0, 0, 0),
		appended(0, 1, 4, 0, 0, 0, entries(4)...),
		appended(0, 1, 4, 7, 3, 0), // a no
		piece(0, 1, 4, 7, 3, 0, "s", false),
		piece(0, 1, 4, 7, 3, 9, "s", false),
		piece(0, 1, 4, 7, 3, 0, "s", true),
		piece(0, 1, 4, 0, 0, 0, "s", true),
	} {
		n := stands(t, 1, fresh(0, 1, 2), 7, 2, 11, 4)
		ticks(t, n, 16)
		n.Step(m)
		if n.Leader() != 0 {
			t.Fatalf("%+v: it follows %d", m, n.Leader())
		}
		ticks(t, n, 11)
		n.Step(m)
		if m.Done && m.Index > 0 { // who takes part by that snapshot: 1, 2, 3
			is(t, "members", n.Members(), []int{1, 2, 3})
		}
		waits(t, n, 21)
		waits(t, n, 14)
	}
}

// Promise 14.1, Words (waiting): what is of a lesser term, may not be, or is to another one, lets it go on.
func TestWaitingGoesOn(t *testing.T) {
	for _, m := range []api.RaftMsg{
		appended(0, 1, 4, 0, 0, 0),
		piece(0, 1, 4, 7, 3, 0, "s", false),
		appended(0, 2, 5, 0, 0, 0),
		appended(1, 1, 5, 0, 0, 0),
		appended(0, 1, 5, 0, 6, 0),
		appended(0, 1, 5, -1, 0, 0),
		vote(0, 1, 4, 9, 4),
		vote(0, 1, 5, 0, 0), // its last entry is older
		vote(0, 1, 6, 0, 0), // its term rises, and it says no
		voted(0, 1, 9, true),
		took(0, 1, 9, 9, true),
		snapped(0, 1, 9, 9, 9, false),
	} {
		h := kept([]int{0, 1, 2}, 5, 5)
		n := stands(t, 1, h, 7, 2)
		ticks(t, n, 10)
		n.Step(m)
		waits(t, n, 7)
		waits(t, n, 12)
	}
}

// Promise 14.1, Words (waiting): a yes to one that asks sets the ticks alone, and takes no draw; the second one, too.
func TestYesSetsTheTicks(t *testing.T) {
	n := stands(t, 1, fresh(0, 1, 2), 7, 2)
	ticks(t, n, 16)
	n.Step(vote(0, 1, 1, 0, 0))
	ticks(t, n, 16)
	n.Step(vote(0, 1, 1, 0, 0))
	ticks(t, n, 16)
	n.Step(vote(2, 1, 1, 0, 0)) // a no
	waits(t, n, 1)
	waits(t, n, 12)
}

// Promise 14.1, Words (waiting): a candidate that follows begins anew, with one draw when it hears the leader of its term, or a higher term; a leader of a higher term takes both.
func TestCandidateFollows(t *testing.T) {
	for _, c := range []struct {
		m      api.RaftMsg
		leader int
		first  int
	}{
		{appended(0, 1, 1, 0, 0, 0), 0, 14},
		{piece(0, 1, 1, 9, 1, 0, "", false), 0, 14},
		{appended(0, 1, 2, 0, 0, 0), 0, 15},
		{vote(0, 1, 2, 0, 0), -1, 14},
		{voted(0, 1, 2, false), -1, 14},
		{took(0, 1, 2, 0, false), -1, 14},
	} {
		n := stands(t, 1, fresh(0, 1, 2), 2, 3, 4, 5, 6)
		waits(t, n, 12)
		ticks(t, n, 12)
		n.Step(c.m)
		at(t, text(c.m), n, api.Follower, c.leader, c.m.Term, 0)
		waits(t, n, c.first)
		waits(t, n, c.first+1)
	}
	for _, m := range []api.RaftMsg{vote(0, 1, 1, 0, 0), voted(0, 1, 1, false), appended(0, 1, 0, 0, 0, 0), took(0, 1, 1, 3, false)} {
		n := stands(t, 1, fresh(0, 1, 2), 2, 3, 4)
		waits(t, n, 12)
		ticks(t, n, 12)
		n.Step(m)
		waits(t, n, 1)
	}
}

// Promise 14.1, Words (waiting): a leader speaks at each third tick from when it leads, whatever it proposes, and never waits; one that follows begins anew, with a draw.
func TestLeaderSpeaks(t *testing.T) {
	n := stands(t, 1, fresh(0, 1, 2), 2, 3, 4, 5)
	waits(t, n, 12)
	ticks(t, n, 4)
	n.Step(voted(0, 1, 1, true))
	for i := range 30 {
		ticks(t, n, 2)
		if i%2 == 0 {
			n.Propose("x")
		}
		if out := n.Tick(); len(out) != 2 || out[0].To != 0 || out[1].To != 2 {
			t.Fatalf("round %d: %+v", i, out)
		}
		at(t, "leader", n, api.Leader, 1, 1, 0)
	}
	n.Step(voted(0, 1, 2, false))
	at(t, "follows", n, api.Follower, -1, 2, 0)
	waits(t, n, 14)
	waits(t, n, 15)
}

// Promise 14.1, Words (a candidate): one that takes part no more waits anew each time, with a draw, and neither its term nor its leader is another one.
func TestWhoTakesNoPartWaits(t *testing.T) {
	n := stands(t, 5, fresh(0, 1, 2), 0, 2, 5)
	n.Step(appended(0, 5, 3, 0, 0, 0, conf(3, 0, 1), conf(3, 0, 1, 4)))
	ticks(t, n, 12+15+(10+(35+9)%20)+100)
	at(t, "waits", n, api.Follower, 0, 3, 0)
	n.Step(appended(0, 5, 3, 2, 3, 0, conf(3, 0, 1, 4, 5)))
	waits(t, n, 10+(35+9)%20)

	n = stands(t, 5, fresh(0, 1, 2), 0, 2)
	ticks(t, n, 11) // the second wait has begun
	n.Step(vote(0, 5, 1, 1, 0))
	n.Step(appended(0, 5, 1, 0, 0, 0, conf(1, 4, 5)))
	waits(t, n, 10+(35+3)%20)
}

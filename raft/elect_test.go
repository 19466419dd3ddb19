package raft_test

import (
	"slices"
	"testing"

	"muniment/api"
	"muniment/raft"
)

// Promise 14.1, example 1: one that takes part alone leads behind its first timeout, and what it proposes is committed at once.
func TestOneAlone(t *testing.T) {
	n := stands(t, 3, fresh(3), 4)
	ticks(t, n, 13)
	tells(t, "alone", n.Tick())
	at(t, "leads", n, api.Leader, 3, 1, 1)
	is(t, "kept", n.Hard(), behind(api.Hard{Term: 1, Vote: 3, BaseConf: []int{3}}, api.LogEntry{Term: 1}))
	index, told, yes := n.Propose("x")
	is(t, "propose", []any{index, told, yes}, []any{2, []api.RaftMsg{}, true})
	e, there := n.Entry(2)
	is(t, "entry", []any{e, there, n.Commit()}, []any{api.LogEntry{Term: 1, S: "x"}, true, 2})
	ticks(t, n, 100)
}

// Promise 14.1, Words (a candidate): its term is one above, it votes for itself, and asks all others, with the index and the term of its last entry.
func TestCandidateAsks(t *testing.T) {
	n := stands(t, 3, api.Hard{Term: 6, Vote: 1, BaseConf: []int{0, 3, 7, 15}, Log: entries(2, 2, 4)})
	tells(t, "asks", standsFor(t, n), vote(3, 0, 7, 3, 4), vote(3, 7, 7, 3, 4), vote(3, 15, 7, 3, 4))
	at(t, "candidate", n, api.Candidate, -1, 7, 0)
	is(t, "vote", n.Hard().Vote, 3)
	tells(t, "asks again", standsFor(t, n), vote(3, 0, 8, 3, 4), vote(3, 7, 8, 3, 4), vote(3, 15, 8, 3, 4))

	n = stands(t, 0, api.Hard{Term: 6, Vote: -1, BaseIndex: 9, BaseTerm: 5, BaseConf: []int{0, 1}})
	tells(t, "by the snapshot's last entry", standsFor(t, n), vote(0, 1, 7, 9, 5))
	n = stands(t, 0, api.Hard{Term: 6, Vote: -1, BaseIndex: 9, BaseTerm: 5, BaseConf: []int{0, 1}, Log: []api.LogEntry{conf(6, 0, 2)}})
	tells(t, "who takes part by the last entry", standsFor(t, n), vote(0, 2, 7, 10, 6))
}

// Promise 14.1, Words (a candidate): who takes no part by the last entry that says who does asks, too, while that one is not known as committed, if it took part by what stood ahead.
func TestWhoMayStand(t *testing.T) {
	for _, c := range []struct {
		base   []int
		log    []api.LogEntry
		commit int
		may    bool
	}{
		{[]int{0, 1, 2}, nil, 0, true},
		{[]int{0, 2}, nil, 0, false},
		{nil, nil, 0, false},
		{[]int{0, 1, 2}, []api.LogEntry{conf(1, 0, 2)}, 0, true},
		{[]int{0, 1, 2}, []api.LogEntry{conf(1, 0, 2)}, 1, false},
		{[]int{0, 1, 2}, []api.LogEntry{conf(1, 0, 2), {Term: 1}, {Term: 1}}, 0, true},
		{[]int{0, 1, 2}, []api.LogEntry{{Term: 1}, conf(1, 0, 2), {Term: 1}}, 1, true},
		{[]int{0, 1, 2}, []api.LogEntry{{Term: 1}, conf(1, 0, 2), {Term: 1}}, 2, false},
		{[]int{0, 1, 2}, []api.LogEntry{{Term: 1}, conf(1, 0, 2), {Term: 1}}, 3, false},
		{[]int{0, 1, 2}, []api.LogEntry{conf(1, 0, 2), conf(1, 0)}, 0, false}, // by neither of the two
		{[]int{0, 2}, []api.LogEntry{conf(1, 0, 1, 2), conf(1, 0)}, 0, true},
		{[]int{0, 2}, []api.LogEntry{conf(1, 0, 1, 2), {Term: 1}, conf(1, 0)}, 2, true},
		{[]int{0, 2}, []api.LogEntry{conf(1, 0, 1, 2), {Term: 1}, conf(1, 0)}, 3, false},
		{[]int{0, 2}, []api.LogEntry{conf(1, 0, 1, 2)}, 0, true},
		{[]int{0, 2}, []api.LogEntry{conf(1, 0, 1, 2)}, 1, true},
	} {
		n := stands(t, 1, fresh(c.base...))
		n.Step(appended(0, 1, 1, 0, 0, c.commit, c.log...))
		is(t, "committed", n.Commit(), c.commit)
		told := 0
		for range 30 {
			told += len(n.Tick())
		}
		at(t, text(c), n, map[bool]int{true: api.Candidate, false: api.Follower}[c.may], map[bool]int{true: -1, false: 0}[c.may], map[bool]int{true: 2, false: 1}[c.may], c.commit)
		if (told > 0) != c.may {
			t.Errorf("%+v: told %d", c, told)
		}
	}
	// with a snapshot, it is committed who takes part by it
	n := stands(t, 1, api.Hard{Term: 1, Vote: -1, BaseIndex: 4, BaseTerm: 1, BaseConf: []int{0, 2}})
	ticks(t, n, 200)
	n = stands(t, 1, api.Hard{Term: 1, Vote: -1, BaseIndex: 4, BaseTerm: 1, BaseConf: []int{0, 1}, Log: []api.LogEntry{conf(1, 0)}})
	tells(t, "by what stood ahead", standsFor(t, n), vote(1, 0, 2, 5, 1))
}

// Promise 14.1, Words (a candidate): it leads with more than half of those that take part, and not with half of them; its own yes counts if it takes part.
func TestMoreThanHalf(t *testing.T) {
	for most := 1; most <= 16; most++ {
		var l []int
		for who := range most {
			l = append(l, who)
		}
		n := stands(t, 0, fresh(l...))
		standsFor(t, n)
		for yes := 1; yes <= most; yes++ {
			leads := 2*yes > most
			if (n.Role() == api.Leader) != leads {
				t.Errorf("%d of %d: role %d", yes, most, n.Role())
			}
			if leads {
				break
			}
			n.Step(voted(yes, 0, 1, true))
		}
	}
	n := stands(t, 1, behind(fresh(0, 1, 2, 3), conf(0, 0, 2, 3)))
	tells(t, "asks", standsFor(t, n), vote(1, 0, 1, 1, 0), vote(1, 2, 1, 1, 0), vote(1, 3, 1, 1, 0))
	n.Step(voted(0, 1, 1, true))
	at(t, "one of three, and itself", n, api.Candidate, -1, 1, 0)
	n.Step(voted(2, 1, 1, true))
	at(t, "two of three", n, api.Leader, 1, 1, 0)

	n = stands(t, 1, behind(fresh(0, 1), conf(0, 0)))
	tells(t, "asks", standsFor(t, n), vote(1, 0, 1, 1, 0))
	at(t, "itself alone, which takes no part", n, api.Candidate, -1, 1, 0)
}

// Promise 14.1, Words (to take a message): a candidate counts what is yes, of its term, once each; of those that take no part nothing.
func TestVotesThatDoNotCount(t *testing.T) {
	for _, l := range [][]api.RaftMsg{
		{voted(1, 0, 1, false), voted(2, 0, 1, false), voted(3, 0, 1, false), voted(4, 0, 1, false)},
		{voted(1, 0, 0, true), voted(2, 0, 0, true), voted(3, 0, 0, true)},
		{voted(1, 0, 1, true), voted(1, 0, 1, true), voted(1, 0, 1, true)},
		{voted(1, 0, 1, true), voted(2, 0, 1, false), voted(2, 0, 0, true)},
		{voted(5, 0, 1, true), voted(6, 0, 1, true), voted(15, 0, 1, true)},
		{voted(1, 2, 1, true), voted(2, 1, 1, true), voted(3, 0, 1, false)},
	} {
		n := stands(t, 0, fresh(0, 1, 2, 3, 4))
		standsFor(t, n)
		for _, m := range l {
			tells(t, text(m), n.Step(m))
		}
		at(t, text(l), n, api.Candidate, -1, 1, 0)
	}
	n := stands(t, 0, fresh(0, 1, 2, 3, 4))
	standsFor(t, n)
	n.Step(voted(1, 0, 1, true))
	standsFor(t, n)
	n.Step(voted(2, 0, 2, true))
	n.Step(voted(3, 0, 1, true))
	at(t, "one of another term", n, api.Candidate, -1, 2, 0)
	n.Step(voted(1, 0, 2, true))
	at(t, "of its term", n, api.Leader, 0, 2, 0)
	n.Step(voted(3, 0, 2, true))
	at(t, "one more", n, api.Leader, 0, 2, 0)
	n.Step(voted(4, 0, 3, true))
	at(t, "of a higher term", n, api.Follower, -1, 3, 0)
	n.Step(voted(1, 0, 3, true))
	n.Step(voted(2, 0, 3, true))
	at(t, "at a follower", n, api.Follower, -1, 3, 0)
}

// Promise 14.1, Words (to take a message): who asks for a vote is told no if its term is lesser, yes in its own term if no other one had it and its last entry is not older; the vote is kept, and the same one has it twice.
func TestAskedForAVote(t *testing.T) {
	base := api.Hard{Term: 4, Vote: -1, BaseConf: []int{0, 1, 2}, Log: entries(2, 3, 3)}
	snap := api.Hard{Term: 4, Vote: -1, BaseIndex: 3, BaseTerm: 3, BaseConf: []int{0, 1, 2}}
	for _, h := range []api.Hard{base, snap} {
		for _, c := range []struct {
			had        int
			m          api.RaftMsg
			term, vote int
			yes        bool
		}{
			{-1, vote(0, 1, 3, 9, 3), 4, -1, false},
			{0, vote(0, 1, 3, 9, 3), 4, 0, false},
			{-1, vote(0, 1, 0, 0, 0), 4, -1, false},
			{-1, vote(0, 1, 4, 3, 3), 4, 0, true},
			{0, vote(0, 1, 4, 3, 3), 4, 0, true},
			{2, vote(0, 1, 4, 3, 3), 4, 2, false},
			{1, vote(0, 1, 4, 9, 4), 4, 1, false},
			{2, vote(0, 1, 5, 3, 3), 5, 0, true},
			{0, vote(0, 1, 5, 2, 3), 5, -1, false},
			{-1, vote(0, 1, 4, 4, 3), 4, 0, true},
			{-1, vote(0, 1, 4, 2, 3), 4, -1, false},
			{-1, vote(0, 1, 4, 9, 2), 4, -1, false},
			{-1, vote(0, 1, 4, 0, 4), 4, 0, true},
			{-1, vote(0, 1, 9, 3, 3), 9, 0, true},
			{-1, vote(5, 1, 9, 3, 3), 9, 5, true}, // whoever asks
			{-1, vote(0, 1, 1<<31-1, 1<<31-1, 1<<31-1), 1<<31 - 1, 0, true},
		} {
			h.Vote = c.had
			n := stands(t, 1, h)
			want := voted(1, c.m.From, c.term, c.yes)
			tells(t, text(c), n.Step(c.m), want)
			is(t, text(c), []int{n.Hard().Term, n.Hard().Vote, n.Role(), n.Leader()}, []int{c.term, c.vote, api.Follower, -1})
			tells(t, text(c)+" again", n.Step(c.m), want)
			other := c.m
			other.From = 2
			if c.m.Term == c.term {
				tells(t, text(c)+" by another one", n.Step(other), voted(1, 2, c.term, c.vote == 2))
			}
		}
	}
}

// Promise 14.1, Words (to take a message): who leads does nothing when it is asked, whatever the term.
func TestAskedWhileItLeads(t *testing.T) {
	n := leader(t, 0, []int{0, 1, 2})
	before := n.Hard()
	for _, term := range []int{0, 1, 2, 3, 1<<31 - 1} {
		tells(t, "leads", n.Step(vote(1, 0, term, 9, term)))
	}
	at(t, "leads", n, api.Leader, 0, 1, 0)
	is(t, "kept", n.Hard(), before)
}

// Promise 14.1, Words (to take a message): who follows a leader of which it heard less than 10 ticks ago does nothing when it is asked; 10 ticks ago, it answers.
func TestAskedWhileItFollows(t *testing.T) {
	for behind := range 18 {
		for _, heard := range []api.RaftMsg{appended(0, 1, 1, 0, 0, 0, entries(1)...), appended(0, 1, 1, 7, 1, 0), piece(0, 1, 1, 9, 1, 0, "", false)} {
			n := stands(t, 1, fresh(0, 1, 2), 15, 15)
			n.Step(heard)
			ticks(t, n, behind)
			before := n.Hard()
			m := vote(2, 1, 2, 9, 2)
			if behind < 10 {
				tells(t, "lately", n.Step(m))
				is(t, "kept", n.Hard(), before)
				at(t, "lately", n, api.Follower, 0, 1, 0)
			} else {
				tells(t, "long ago", n.Step(m), voted(1, 2, 2, true))
				at(t, "long ago", n, api.Follower, -1, 2, 0)
			}
		}
	}
	n := stands(t, 1, fresh(0, 1, 2))
	n.Step(appended(0, 1, 1, 0, 0, 0))
	ticks(t, n, 9)
	n.Step(appended(0, 1, 0, 0, 0, 0)) // of a lesser term: not its leader
	ticks(t, n, 1)
	tells(t, "heard 10 ticks ago", n.Step(vote(2, 1, 1, 0, 0)), voted(1, 2, 1, true))
	ticks(t, n, 9)
	tells(t, "a yes is not a word of the leader", n.Step(vote(2, 1, 1, 0, 0)), voted(1, 2, 1, true))
	is(t, "leader", n.Leader(), 0)

	n = stands(t, 1, fresh(0, 1, 2))
	n.Step(appended(0, 1, 1, 0, 0, 0))
	n.Step(voted(2, 1, 2, true)) // its term rises, and it has no leader any more
	tells(t, "without a leader", n.Step(vote(2, 1, 2, 0, 0)), voted(1, 2, 2, true))
	n = stands(t, 1, fresh(0, 1, 2))
	standsFor(t, n)
	tells(t, "a candidate", n.Step(vote(2, 1, 1, 0, 0)), voted(1, 2, 1, false))
	tells(t, "a candidate", n.Step(vote(2, 1, 2, 0, 0)), voted(1, 2, 2, true))
}

// Promise 14.1, Words (to take a message): a higher term makes a follower without a leader or a vote of whoever it was, by each kind of message.
func TestHigherTerm(t *testing.T) {
	for _, m := range []api.RaftMsg{voted(2, 0, 5, true), voted(2, 0, 5, false), took(2, 0, 5, 1, true), took(2, 0, 5, 1, false), snapped(2, 0, 5, 0, 0, true), snapped(9, 0, 5, 0, 0, false)} {
		for _, n := range []*raft.Node{leader(t, 0, []int{0, 1, 2}), candidate(t), follower(t)} {
			tells(t, text(m), n.Step(m))
			is(t, text(m), []int{n.Role(), n.Leader(), n.Hard().Term, n.Hard().Vote}, []int{api.Follower, -1, 5, -1})
		}
	}
	n := candidate(t)
	tells(t, "a leader's", n.Step(appended(2, 0, 5, 0, 0, 0)), took(0, 2, 5, 0, true))
	is(t, "it", []int{n.Role(), n.Leader(), n.Hard().Term, n.Hard().Vote}, []int{api.Follower, 2, 5, -1})
	n = candidate(t)
	tells(t, "a leader's", n.Step(appended(2, 0, 1, 0, 0, 0)), took(0, 2, 1, 0, true))
	is(t, "its vote stays", []int{n.Role(), n.Leader(), n.Hard().Term, n.Hard().Vote}, []int{api.Follower, 2, 1, 0})
	if !slices.Equal(n.Members(), []int{0, 1, 2}) {
		t.Error(n.Members())
	}
}

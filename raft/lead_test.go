package raft_test

import (
	"fmt"
	"testing"

	"muniment/api"
)

// Promise 14.1, Words (a leader): it begins with an empty entry of its term behind its last one, and is the leader that it knows; next is one above its last.
func TestLeaderBegins(t *testing.T) {
	h := kept([]int{0, 1, 2, 5}, 1, 1, 2)
	n := stands(t, 1, h)
	standsFor(t, n)
	n.Step(voted(5, 1, 3, true))
	told := n.Step(voted(0, 1, 3, true))
	at(t, "leads", n, api.Leader, 1, 3, 0)
	h.Term, h.Vote, h.Log = 3, 1, append(h.Log, api.LogEntry{Term: 3})
	is(t, "kept", n.Hard(), h)
	want := []api.RaftMsg{appended(1, 0, 3, 4, 3, 0), appended(1, 2, 3, 4, 3, 0), appended(1, 5, 3, 4, 3, 0)}
	tells(t, "as it begins", told, want...)
	for range 3 {
		ticks(t, n, 2)
		tells(t, "at the third tick", n.Tick(), want...)
	}
	is(t, "kept", n.Hard(), h)
}

// Promise 14.1, Words (a leader): next stays where it was till an answer comes, so that all from there on is told, at most 16 entries at once.
func TestTellsFromNextOn(t *testing.T) {
	n := leader(t, 0, []int{0, 1})
	var l []api.LogEntry
	for i := range 40 {
		e := api.LogEntry{Term: 1, S: fmt.Sprint("p", i)}
		l = append(l, e)
		index, told, yes := n.Propose(e.S)
		is(t, "propose", []any{index, yes}, []any{i + 2, true})
		tells(t, "propose", told, appended(0, 1, 1, 1, 1, 0, l[:min(16, len(l))]...))
	}
	ticks(t, n, 2)
	tells(t, "tick", n.Tick(), appended(0, 1, 1, 1, 1, 0, l[:16]...))
	tells(t, "yes", n.Step(took(1, 0, 1, 17, true)), appended(0, 1, 1, 17, 1, 17, l[16:32]...))
	tells(t, "yes", n.Step(took(1, 0, 1, 33, true)), appended(0, 1, 1, 33, 1, 33, l[32:]...))
	tells(t, "yes", n.Step(took(1, 0, 1, 40, true)), appended(0, 1, 1, 40, 1, 40, l[39:]...))
	tells(t, "all", n.Step(took(1, 0, 1, 41, true)))
	ticks(t, n, 2)
	tells(t, "tick", n.Tick(), appended(0, 1, 1, 41, 1, 41))
	_, told, _ := n.Propose("x")
	tells(t, "propose", told, appended(0, 1, 1, 41, 1, 41, api.LogEntry{Term: 1, S: "x"}))
}

// Promise 14.1, Words (to take a message): a no lets next go back, by one at least, not below what is known to be had, and not above what is told; that one is told again.
func TestNextGoesBack(t *testing.T) {
	terms := append(many(1, 20), many(2, 9)...) // the leader's own is the 30th, of the term 3
	l := append(entries(terms...), api.LogEntry{Term: 3})
	told := func(ahead int) api.RaftMsg {
		term := 0
		if ahead > 0 {
			term = l[ahead-1].Term
		}
		return appended(0, 1, 3, ahead, term, 0, l[ahead:min(ahead+16, 30)]...)
	}
	for _, c := range []struct{ says, ahead int }{{0, 0}, {1, 1}, {7, 7}, {20, 20}, {28, 28}, {29, 29}, {30, 29}, {31, 29}, {1<<31 - 1, 29}} {
		n := leader(t, 0, []int{0, 1, 2}, terms...)
		tells(t, fmt.Sprint("no ", c.says), n.Step(took(1, 0, 3, c.says, false)), told(c.ahead))
		tells(t, fmt.Sprint("no ", c.says, " again"), n.Step(took(1, 0, 3, 1000, false)), told(max(c.ahead-1, 0)))
		tells(t, "no", n.Step(took(1, 0, 3, 3, false)), told(min(3, max(c.ahead-2, 0))))
		tells(t, "no", n.Step(took(1, 0, 3, 0, false)), told(0))
		tells(t, "no", n.Step(took(1, 0, 3, 0, false)), told(0))
		ticks(t, n, 2)
		other := appended(0, 2, 3, 30, 3, 0)
		tells(t, "tick", n.Tick(), told(0), other)
	}
	n := leader(t, 0, []int{0, 1, 2}, terms...)
	n.Step(took(1, 0, 3, 12, false))
	tells(t, "yes", n.Step(took(1, 0, 3, 25, true)), told(25))
	for range 10 {
		tells(t, "what is had is not told", n.Step(took(1, 0, 3, 3, false)), told(25))
	}
	n.Step(took(1, 0, 3, 28, true))
	tells(t, "a lesser one is not less", n.Step(took(1, 0, 3, 4, true)), told(28))
	tells(t, "nor is it had less", n.Step(took(1, 0, 3, 4, false)), told(28))
}

// Promise 14.1, Words (a leader): it commits the greatest index of its own term that more than half have, itself among them; of an older term alone nothing is.
func TestCommitsOfItsTerm(t *testing.T) {
	n := leader(t, 0, []int{0, 1, 2, 3, 4}, 1, 1, 2)
	n.Propose("x")
	n.Propose("y")
	for _, c := range []struct{ who, had, commit int }{
		{1, 3, 0}, {2, 3, 0}, {3, 3, 0}, {4, 3, 0}, // all have what is of an older term
		{1, 4, 0}, {2, 4, 4}, {3, 6, 4}, {4, 5, 5}, {1, 5, 5}, {1, 6, 6}, {1, 6, 6}, {2, 4, 6},
	} {
		n.Step(took(c.who, 0, 3, c.had, true))
		is(t, text(c), n.Commit(), c.commit)
	}
	e, there := n.Entry(5)
	is(t, "entry", []any{e, there}, []any{api.LogEntry{Term: 3, S: "x"}, true})

	for most := 2; most <= 16; most++ {
		var l []int
		for who := range most {
			l = append(l, who)
		}
		n := leader(t, 0, l)
		for who := 1; who < most; who++ {
			n.Step(took(who, 0, 1, 1, true))
			n.Step(took(who, 0, 1, 1, true)) // doubled
			want := 0
			if 2*(who+1) > most {
				want = 1
			}
			is(t, fmt.Sprint(who+1, " of ", most), n.Commit(), want)
		}
	}
}

// Promise 14.1, Words (to take a message): answers that do nothing: of another term, of one that takes no part, at one that does not lead; and an index that is not there is not had.
func TestAnswersThatDoNothing(t *testing.T) {
	h := api.Hard{Term: 4, Vote: -1, BaseIndex: 3, BaseTerm: 4, Base: long(500), BaseConf: []int{0, 1, 2}}
	for _, m := range []api.RaftMsg{
		took(1, 0, 4, 4, true), took(1, 0, 0, 4, true), took(1, 0, 4, 0, false),
		took(3, 0, 5, 4, true), took(15, 0, 5, 4, true), took(3, 0, 5, 0, false),
		snapped(1, 0, 4, 3, 200, false), snapped(3, 0, 5, 3, 200, false), snapped(1, 0, 4, 3, 0, true), snapped(3, 0, 5, 3, 0, true),
		snapped(1, 0, 5, 2, 200, false), snapped(1, 0, 5, 4, 200, false),
		took(1, 2, 5, 4, true), took(1, 0, 5, -1, true),
		{Kind: api.RaftSnapped, From: 1, To: 0, Term: 4},
	} {
		n := stands(t, 0, h)
		leads(t, n)
		before := n.Hard()
		for range 3 {
			tells(t, text(m), n.Step(m))
		}
		at(t, text(m), n, api.Leader, 0, 5, 3)
		is(t, "kept", n.Hard(), before)
		ticks(t, n, 2)
		tells(t, text(m), n.Tick(), appended(0, 1, 5, 4, 5, 3), appended(0, 2, 5, 4, 5, 3))
		tells(t, "its pieces begin with the first", n.Step(took(1, 0, 5, 0, false)), pieceOf(n.Hard(), 0, 1, 0, 200, false))
	}
	for _, m := range []api.RaftMsg{took(1, 0, 1, 1, true), took(1, 0, 1, 0, false), snapped(1, 0, 1, 0, 0, true), snapped(1, 0, 1, 0, 0, false)} {
		n := candidate(t)
		tells(t, "candidate", n.Step(m))
		at(t, "candidate", n, api.Candidate, -1, 1, 0)
		n = follower(t)
		tells(t, "follower", n.Step(m))
		at(t, "follower", n, api.Follower, 1, 1, 0)
	}
	n := leader(t, 0, []int{0, 1, 2})
	tells(t, "beyond its last", n.Step(took(1, 0, 1, 9, true)))
	is(t, "committed", n.Commit(), 1)
	_, told, _ := n.Propose("x")
	tells(t, "from there on", told, appended(0, 1, 1, 1, 1, 1, api.LogEntry{Term: 1, S: "x"}), appended(0, 2, 1, 1, 1, 1, api.LogEntry{Term: 1, S: "x"}))
	is(t, "what was not there was not had", n.Commit(), 1)
	tells(t, "a piece that nobody waits for", n.Step(snapped(1, 0, 1, 0, 7, false)))
}

// Promise 14.1: Propose at one that does not lead is nothing.
func TestProposeElsewhere(t *testing.T) {
	for i, l := range []func(string) (int, []api.RaftMsg, bool){candidate(t).Propose, follower(t).Propose, stands(t, 0, fresh(0)).Propose} {
		index, told, yes := l("x")
		is(t, fmt.Sprint(i), []any{index, told, yes}, []any{0, []api.RaftMsg{}, false})
	}
	n := leader(t, 0, []int{0, 1, 2})
	n.Step(voted(1, 0, 2, false))
	before := n.Hard()
	index, told, yes := n.Propose("x")
	is(t, "no more", []any{index, told, yes, n.Hard()}, []any{0, []api.RaftMsg{}, false, before})
}

// Promise 14.1: Propose of any text, at the index behind its last, told to all others, with what is committed.
func TestPropose(t *testing.T) {
	n := leader(t, 2, []int{0, 2, 3}, 1)
	commits(t, n, 0, 3)
	for i, s := range []string{"", "x", "\x00\xff", long(5000)} {
		e := api.LogEntry{Term: 2, S: s}
		index, told, yes := n.Propose(s)
		is(t, "propose", []any{index, yes}, []any{3 + i, true})
		tells(t, "propose", told, appended(2, 0, 2, 2+i, 2, 2+i, e), appended(2, 3, 2, 2+i, 2, 2+i, e))
		_, there := n.Entry(index)
		is(t, "not committed yet", there, false)
		commits(t, n, 0, 3)
		got, there := n.Entry(index)
		is(t, "committed", []any{got, there}, []any{e, true})
	}
}

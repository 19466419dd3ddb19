package raft_test

import (
	"fmt"
	"testing"

	"muniment/api"
	"muniment/raft"
)

// refused holds that a change may not be, and that nothing comes of it.
func refused(t *testing.T, what string, n *raft.Node, l []int) {
	t.Helper()
	before := []any{n.Hard(), n.Role(), n.Commit(), n.Members()}
	index, told, yes := n.Change(l)
	is(t, what, []any{index, told, yes}, []any{0, []api.RaftMsg{}, false})
	is(t, what, []any{n.Hard(), n.Role(), n.Commit(), n.Members()}, before)
}

// Promise 14.1: Change at one that does not lead is nothing.
func TestChangeElsewhere(t *testing.T) {
	for _, n := range []*raft.Node{candidate(t), follower(t), stands(t, 0, fresh(0, 1, 2))} {
		refused(t, "does not lead", n, []int{0, 1})
	}
	n := leader(t, 0, []int{0, 1, 2})
	commits(t, n, 1)
	n.Step(voted(1, 0, 2, false))
	refused(t, "leads no more", n, []int{0, 1})
}

// Promise 14.1: Change waits till an entry of the leader's term is committed last, and till the last entry that says who takes part is committed.
func TestChangeWaits(t *testing.T) {
	n := leader(t, 0, []int{0, 1, 2}, 1, 1)
	refused(t, "nothing is committed", n, []int{0, 1})
	n.Step(took(1, 0, 2, 2, true))
	refused(t, "of an older term", n, []int{0, 1})
	n.Step(took(1, 0, 2, 3, true))
	index, told, yes := n.Change([]int{0, 1, 2, 9})
	e := conf(2, 0, 1, 2, 9)
	is(t, "change", []any{index, yes}, []any{4, true})
	tells(t, "change", told, appended(0, 1, 2, 3, 2, 3, e), appended(0, 2, 2, 3, 2, 3, e), appended(0, 9, 2, 4, 2, 3))
	is(t, "members", n.Members(), []int{0, 1, 2, 9})
	is(t, "kept", n.Hard().Log[3], e)
	refused(t, "one is under way", n, []int{0, 1, 2})
	n.Propose("x")
	refused(t, "one is under way", n, []int{0, 1, 2})
	n.Step(took(1, 0, 2, 4, true))
	refused(t, "two of four", n, []int{0, 1, 2})
	n.Step(took(2, 0, 2, 4, true))
	is(t, "committed", n.Commit(), 4)
	index, told, yes = n.Change([]int{0, 1, 9})
	is(t, "change", []any{index, yes, len(told)}, []any{6, true, 2})
	is(t, "members", n.Members(), []int{0, 1, 9})

	// an older term's snapshot is all that is committed
	n = stands(t, 0, api.Hard{Term: 1, Vote: -1, BaseIndex: 5, BaseTerm: 1, BaseConf: []int{0, 1, 2}})
	leads(t, n)
	refused(t, "of an older term", n, []int{0, 1})
	n.Step(took(1, 0, 2, 6, true))
	n.Compact(6, "s")
	if _, _, yes := n.Change([]int{0, 1}); !yes {
		t.Error("an entry of its term is committed, and in the snapshot")
	}

	// an entry of an older term that says who takes part
	n = stands(t, 0, behind(kept([]int{0, 1}), conf(0, 0, 1, 2)))
	leads(t, n)
	n.Step(took(1, 0, 1, 1, true))
	refused(t, "not committed", n, []int{0, 1})
	n.Step(took(1, 0, 1, 2, true))
	if _, _, yes := n.Change([]int{0, 1}); !yes {
		t.Error("all is committed")
	}
}

// Promise 14.1: Change of a list that may not follow those that take part is nothing; of one more or one less it is an entry.
func TestChangeOfLists(t *testing.T) {
	for _, l := range [][]int{nil, {}, {0}, {0, 1, 2}, {0, 1, 2, 3, 4}, {0, 1, 3}, {1, 0}, {0, 0}, {0, 1, 2, 2}, {2, 1, 0, 3}, {0, 1, 2, 16}, {-1, 0, 1, 2}, {3}, {0, 1, 2, 1 << 40}} {
		n := leader(t, 0, []int{0, 1, 2})
		commits(t, n, 1)
		refused(t, text(l), n, l)
	}
	for _, l := range [][]int{{0, 1}, {0, 2}, {1, 2}, {0, 1, 2, 3}, {0, 1, 2, 15}} {
		n := leader(t, 0, []int{0, 1, 2})
		commits(t, n, 1)
		index, _, yes := n.Change(l)
		is(t, text(l), []any{index, yes, n.Members(), n.Commit()}, []any{2, true, l, 1})
	}
	n := leader(t, 7, []int{7})
	refused(t, "nobody", n, nil)
	index, told, yes := n.Change([]int{7, 8})
	is(t, "one comes to one alone", []any{index, told, yes, n.Commit()}, []any{2, []api.RaftMsg{appended(7, 8, 1, 2, 1, 1)}, true, 1})
	n.Step(took(8, 7, 1, 2, true))
	is(t, "committed", n.Commit(), 2)
	index, told, yes = n.Change([]int{7})
	is(t, "it goes: at once", []any{index, told, yes, n.Commit(), n.Role()}, []any{3, []api.RaftMsg{}, true, 3, api.Leader})
}

// Promise 14.1, Words (a leader): one that comes is told from behind the last entry on, and counts from then on; one that went and comes again is known to have nothing.
func TestOneComes(t *testing.T) {
	n := leader(t, 0, []int{0, 1}, 1, 1, 1)
	commits(t, n, 1)
	tells(t, "it takes no part yet", n.Step(took(2, 0, 2, 4, true)))
	_, told, _ := n.Change([]int{0, 1, 2})
	tells(t, "it comes", told, appended(0, 1, 2, 4, 2, 4, conf(2, 0, 1, 2)), appended(0, 2, 2, 5, 2, 4))
	h := n.Hard()
	tells(t, "it has nothing", n.Step(took(2, 0, 2, 0, false)), appended(0, 2, 2, 0, 0, 4, h.Log...))
	n.Step(took(2, 0, 2, 5, true))
	is(t, "it counts", n.Commit(), 5)
	n.Propose("x")
	n.Step(took(2, 0, 2, 6, true))
	is(t, "it counts", n.Commit(), 6)

	_, told, _ = n.Change([]int{0, 1})
	is(t, "it goes", len(told), 1)
	tells(t, "it takes no part", n.Step(took(2, 0, 2, 0, false)))
	tells(t, "it takes no part", n.Step(took(2, 0, 2, 7, true)))
	is(t, "it does not count", n.Commit(), 6)
	ticks(t, n, 2)
	is(t, "nobody tells it", len(n.Tick()), 1)
	n.Step(took(1, 0, 2, 7, true))
	is(t, "committed", n.Commit(), 7)
	_, told, _ = n.Change([]int{0, 1, 2})
	tells(t, "it comes again", told, appended(0, 1, 2, 7, 2, 7, conf(2, 0, 1, 2)), appended(0, 2, 2, 8, 2, 7))
	tells(t, "it is known to have nothing", n.Step(took(2, 0, 2, 0, false)), appended(0, 2, 2, 0, 0, 7, n.Hard().Log...))
}

// Promise 14.1, Words (a leader): a leader that goes leads on, and counts no more, till that is committed; then it follows nobody, and waits.
func TestLeaderGoes(t *testing.T) {
	n := stands(t, 0, fresh(0, 1, 2, 3), 1, 2, 3)
	leads(t, n)
	commits(t, n, 1, 2)
	index, told, yes := n.Change([]int{1, 2, 3})
	is(t, "it goes", []any{index, yes, len(told)}, []any{2, true, 3})
	at(t, "it leads on", n, api.Leader, 0, 1, 1)
	if _, out, yes := n.Propose("x"); !yes || len(out) != 3 {
		t.Error(out, yes)
	}
	n.Step(took(1, 0, 1, 2, true))
	at(t, "one of three", n, api.Leader, 0, 1, 1)
	ticks(t, n, 2)
	is(t, "it speaks", len(n.Tick()), 3)
	tells(t, "two of three", n.Step(took(2, 0, 1, 2, true)))
	at(t, "it follows", n, api.Follower, -1, 1, 2)
	is(t, "members", n.Members(), []int{1, 2, 3})
	tells(t, "no more", n.Step(took(3, 0, 1, 0, false)))
	ticks(t, n, 300)
	at(t, "it waits", n, api.Follower, -1, 1, 2)
	tells(t, "it gives its vote", n.Step(vote(3, 0, 2, 3, 1)), voted(0, 3, 2, true))

	n = leader(t, 0, []int{0, 1})
	commits(t, n, 1)
	_, told, _ = n.Change([]int{1})
	is(t, "told", len(told), 1)
	at(t, "it counts no more", n, api.Leader, 0, 1, 1)
	n.Step(took(1, 0, 1, 2, true))
	at(t, "one of one", n, api.Follower, -1, 1, 2)
}

// Promise 14.1, Words (a candidate, a leader): one that leads though it takes part no more, because that was not known as committed, follows when it is.
func TestLeadsThoughItWent(t *testing.T) {
	n := stands(t, 1, behind(fresh(0, 1, 2), api.LogEntry{}, conf(0, 0, 2)))
	told := leads(t, n)
	tells(t, "others", told, appended(1, 0, 1, 3, 1, 0), appended(1, 2, 1, 3, 1, 0))
	n.Step(took(0, 1, 1, 3, true))
	at(t, "one of two", n, api.Leader, 1, 1, 0)
	n.Step(took(2, 1, 1, 3, true))
	at(t, "both", n, api.Follower, -1, 1, 3)
}

// Promise 14.1: three that agree, one that comes by a snapshot, the leader that goes, and the others that go on.
func TestComeAndGo(t *testing.T) {
	l := []*raft.Node{stands(t, 0, fresh(0, 1, 2), 0), stands(t, 1, fresh(0, 1, 2)), stands(t, 2, fresh(0, 1, 2)), stands(t, 3, fresh())}
	var net []api.RaftMsg
	flows := func() {
		for len(net) > 0 {
			m := net[0]
			net = append(net[1:], l[m.To].Step(m)...)
		}
	}
	rounds := func(many int) {
		for range many {
			for _, n := range l {
				net = append(net, n.Tick()...)
			}
			flows()
		}
	}
	rounds(10)
	at(t, "the first one", l[0], api.Leader, 0, 1, 1)
	for i := range 30 {
		_, out, _ := l[0].Propose(fmt.Sprint("p", i))
		net = append(net, out...)
		flows()
	}
	if !l[0].Compact(20, long(999)) {
		t.Fatal("no snapshot")
	}
	_, out, yes := l[0].Change([]int{0, 1, 2, 3})
	net = append(net, out...)
	is(t, "one comes", yes, true)
	flows()
	rounds(3)
	for _, n := range l {
		is(t, "committed", []any{n.Commit(), n.Members(), n.Leader()}, []any{32, []int{0, 1, 2, 3}, 0})
	}
	is(t, "by the snapshot", []any{l[3].Hard().BaseIndex, l[3].Hard().Base}, []any{20, long(999)})
	_, out, yes = l[0].Change([]int{1, 2, 3})
	net = append(net, out...)
	is(t, "the leader goes", yes, true)
	flows()
	at(t, "it follows", l[0], api.Follower, -1, 1, 33)
	rounds(25)
	at(t, "the one that came", l[3], api.Leader, 3, 2, 34)
	is(t, "the one that went", []int{l[0].Role(), l[0].Term()}, []int{api.Follower, 1})
	_, out, _ = l[3].Propose("last")
	net = append(net, out...)
	flows()
	rounds(3)
	for _, n := range l[1:] {
		e, there := n.Entry(35)
		is(t, "last", []any{e.S, there}, []any{"last", true})
	}
}

package raft_test

import (
	"fmt"
	"slices"
	"testing"

	"muniment/api"
	"muniment/raft"
)

// holder is the second of three, with entries of the terms 1, 1, 2, 2, 3 behind a snapshot of so many, and as many committed of all.
func holder(t *testing.T, base, commit int) *raft.Node {
	t.Helper()
	terms := []int{1, 1, 2, 2, 3}
	h := api.Hard{Term: 3, Vote: -1, BaseConf: []int{0, 1, 2}, Log: entries(terms...)[base:], BaseIndex: base}
	if base > 0 {
		h.BaseTerm, h.Base = terms[base-1], "s"
	}
	n := stands(t, 1, h)
	n.Step(appended(0, 1, 3, 5, 3, commit))
	is(t, "committed", n.Commit(), commit)
	return n
}

// Promise 14.1, Words (to take a message): entries of a lesser term are refused, with its own term; nothing is followed.
func TestAppendOfALesserTerm(t *testing.T) {
	for _, role := range []int{api.Follower, api.Candidate, api.Leader} {
		n := stands(t, 1, fresh(0, 1, 2))
		n.Step(voted(0, 1, 5, false))
		if role != api.Follower {
			standsFor(t, n)
		}
		if role == api.Leader {
			n.Step(voted(0, 1, 6, true))
		}
		before, term := n.Hard(), n.Term()
		for low := range term {
			tells(t, "no", n.Step(appended(2, 1, low, 0, 0, 9, api.LogEntry{Term: low, S: "x"})), took(1, 2, term, 0, false))
			no := snapped(1, 2, term, 0, 0, false)
			no.Yes = false
			tells(t, "no", n.Step(piece(2, 1, low, 9, 0, 0, "s", true)), no)
		}
		is(t, "kept", n.Hard(), before)
		at(t, "stays", n, role, map[bool]int{true: 1, false: -1}[role == api.Leader], term, 0)
	}
}

// Promise 14.1, Words (to take a message): without the entry ahead it is a no, with the lesser of its last index and the one ahead of that; nothing is changed but whom it follows.
func TestAppendWithoutTheEntryAhead(t *testing.T) {
	for base := range 6 {
		for _, c := range []struct{ index, logTerm, no int }{
			{6, 3, 5}, {7, 3, 5}, {6, 0, 5}, {1<<31 - 1, 3, 5}, {5, 2, 4}, {5, 0, 4}, {4, 1, 3}, {4, 3, 3}, {3, 1, 2}, {2, 2, 1}, {2, 0, 1}, {1, 0, 0}, {1, 3, 0}, {0, 1, 0},
		} {
			if c.index < base {
				continue // what the snapshot holds is had
			}
			n := holder(t, base, base)
			before := n.Hard()
			tells(t, text(c), n.Step(appended(2, 1, 3, c.index, c.logTerm, 9, entries(3, 3)...)), took(1, 2, 3, c.no, false))
			is(t, text(c), n.Hard(), before)
			at(t, text(c), n, api.Follower, 2, 3, base)
		}
	}
	n := stands(t, 1, fresh(0, 1))
	tells(t, "nothing is there", n.Step(appended(0, 1, 1, 7, 1, 0)), took(1, 0, 1, 0, false))
}

// Promise 14.1, Words (to take a message): with the entry ahead those of the message are there: entries that are the same stay, and with them what is behind them; other ones go, with all behind them. Entries up to the snapshot are passed over.
func TestAppend(t *testing.T) {
	mine := entries(1, 1, 2, 2, 3)
	for base := range 6 {
		for ahead := range 6 {
			for many := range 8 {
				for other := range many + 1 { // from which one on the message has other ones
					n := holder(t, base, base)
					var l []api.LogEntry
					for i := range many {
						e := api.LogEntry{Term: 3, S: fmt.Sprint("o", i)}
						if ahead+i < 5 && i < other {
							e = mine[ahead+i]
						}
						l = append(l, e)
					}
					h := n.Hard()
					want := slices.Clone(h.Log)
					for i, e := range l {
						if k := ahead + i - base; k >= 0 && (k >= len(want) || text(want[k]) != text(e)) {
							want = append(want[:k:k], l[i:]...)
							break
						}
					}
					m := appended(0, 1, 3, ahead, 0, 0, l...)
					if ahead > 0 {
						m.LogTerm = mine[ahead-1].Term
					}
					what := fmt.Sprintf("base %d, %+v", base, m)
					tells(t, what, n.Step(m), took(1, 0, 3, ahead+many, true))
					h.Log = want
					is(t, what, n.Hard(), h)
				}
			}
		}
	}
	n := holder(t, 3, 3)
	tells(t, "below the snapshot, whatever its term", n.Step(appended(0, 1, 3, 2, 3, 0, entries(3)...)), took(1, 0, 3, 3, true))
	is(t, "kept", n.Hard().Log, entries(1, 1, 2, 2, 3)[3:])
	tells(t, "sixteen", n.Step(appended(0, 1, 3, 5, 3, 0, entries(many(3, 16)...)...)), took(1, 0, 3, 21, true))
	is(t, "members", n.Members(), []int{0, 1, 2})
}

// Promise 14.1, Words (to take a message): an entry is another one by its term, its text, whether it says who takes part, or who; then it goes.
func TestOtherEntries(t *testing.T) {
	for _, c := range []struct {
		a, b  api.LogEntry
		other bool
	}{
		{api.LogEntry{Term: 2, S: "a"}, api.LogEntry{Term: 2, S: "a"}, false},
		{api.LogEntry{Term: 2, S: "a"}, api.LogEntry{Term: 3, S: "a"}, true},
		{api.LogEntry{Term: 2, S: "a"}, api.LogEntry{Term: 2, S: "b"}, true},
		{api.LogEntry{Term: 2}, conf(2, 1), true},
		{api.LogEntry{Term: 2}, conf(2), true},
		{conf(2), conf(2), false},
		{conf(2, 1, 2), conf(2, 1, 2), false},
		{conf(2, 1, 2), conf(2, 1, 3), true},
		{conf(2, 1, 2), conf(2, 1), true},
	} {
		for _, x := range [][2]api.LogEntry{{c.a, c.b}, {c.b, c.a}} {
			behindIt := api.LogEntry{Term: 3, S: "behind"}
			n := stands(t, 1, behind(fresh(0, 1), x[0], behindIt))
			tells(t, text(c), n.Step(appended(0, 1, 3, 0, 0, 0, x[1])), took(1, 0, 3, 1, true))
			want := []api.LogEntry{x[1]}
			if !c.other {
				want = append(want, behindIt)
			}
			is(t, text(c), n.Hard().Log, want)

			n = stands(t, 1, behind(fresh(0, 1), x[0], behindIt))
			n.Step(appended(0, 1, 3, 2, 3, 1))
			before, no := n.Hard(), took(1, 0, 3, 0, false)
			if !c.other {
				no = took(1, 0, 3, 1, true)
			}
			tells(t, text(c)+", committed", n.Step(appended(0, 1, 3, 0, 0, 0, x[1])), no)
			is(t, text(c)+", committed", n.Hard(), before)
		}
	}
}

// Promise 14.1, Words (to take a message): what would go against an entry that is committed is a no, wherever it stands in the message; behind it entries go.
func TestAppendAgainstWhatIsCommitted(t *testing.T) {
	mine := entries(1, 1, 2, 2, 3)
	for base := range 4 {
		for commit := base; commit <= 5; commit++ {
			for ahead := range 5 {
				for at := ahead; at < 5; at++ { // where the other one stands
					n := holder(t, base, commit)
					l := slices.Clone(mine[ahead:])
					l[at-ahead] = api.LogEntry{Term: 3, S: "other"}
					m := appended(0, 1, 3, ahead, 0, 5, l...)
					if ahead > 0 {
						m.LogTerm = mine[ahead-1].Term
					}
					h, what := n.Hard(), fmt.Sprintf("base %d, committed %d, %+v", base, commit, m)
					if at >= base && at < commit {
						tells(t, what, n.Step(m), took(1, 0, 3, min(5, max(0, ahead-1)), false))
						is(t, what, n.Commit(), commit)
					} else {
						tells(t, what, n.Step(m), took(1, 0, 3, 5, true))
						is(t, what, n.Commit(), 5)
						if at >= base {
							h.Log = append(h.Log[:at-base:at-base], l[at-ahead:]...)
						}
					}
					is(t, what, n.Hard(), h)
				}
			}
		}
	}
}

// Promise 14.1, Words (to take a message): committed is the greater of what was, and the lesser of Commit and the last index of the message.
func TestAppendCommits(t *testing.T) {
	mine := entries(1, 1, 2, 2, 3)
	for base := range 5 {
		for was := base; was <= 5; was++ {
			for ahead := range 6 {
				for many := range 6 - ahead {
					for _, commit := range []int{0, 1, 2, 3, 4, 5, 6, 1<<31 - 1} {
						n := holder(t, base, was)
						m := appended(0, 1, 3, ahead, 0, commit, mine[ahead:ahead+many]...)
						if ahead > 0 {
							m.LogTerm = mine[ahead-1].Term
						}
						n.Step(m)
						is(t, fmt.Sprintf("base %d, committed %d, %+v", base, was, m), n.Commit(), max(was, min(commit, ahead+many)))
					}
				}
			}
		}
	}
	n := stands(t, 1, fresh(0, 1, 2))
	n.Step(appended(0, 1, 1, 0, 0, 2, entries(1, 1, 1)...))
	is(t, "committed", n.Commit(), 2)
	n.Step(appended(0, 1, 1, 1, 1, 1))
	is(t, "it does not go back", n.Commit(), 2)
	n.Step(appended(0, 1, 1, 9, 1, 3))
	is(t, "a no commits nothing", n.Commit(), 2)
}

// Promise 14.1, Words (who takes part): a log that is cut back behind an entry that says who takes part says what stood ahead of it.
func TestCutBackBehindWhoTakesPart(t *testing.T) {
	n := stands(t, 1, fresh(0, 1, 2))
	n.Step(appended(0, 1, 1, 0, 0, 0, api.LogEntry{Term: 1}, conf(1, 0, 1), conf(1, 1), api.LogEntry{Term: 1, S: "x"}))
	is(t, "members", n.Members(), []int{1})
	n.Step(appended(2, 1, 2, 2, 1, 0, api.LogEntry{Term: 2}))
	is(t, "members", n.Members(), []int{0, 1})
	n.Step(appended(2, 1, 3, 1, 1, 0, api.LogEntry{Term: 3}))
	is(t, "members", n.Members(), []int{0, 1, 2})
	n.Step(appended(2, 1, 3, 2, 3, 0, conf(3, 1, 2)))
	is(t, "members", n.Members(), []int{1, 2})
	tells(t, "asks those that take part", standsFor(t, n), vote(1, 2, 4, 3, 3))
}

// Promise 14.1: a message that may not be, or is to another one, does nothing.
func TestStepOfWhatMayNotBe(t *testing.T) {
	for _, m := range wrong() {
		m.To = 0 * m.To
		if m.From == 0 {
			m.From = 1
		}
		if raft.Check(m) {
			continue // what was wrong was from whom, or to whom
		}
		for _, n := range []*raft.Node{candidate(t), follower(t), leader(t, 0, []int{0, 1, 2}), stands(t, 0, fresh(0, 1, 2))} {
			before := []any{n.Hard(), n.Role(), n.Leader(), n.Commit()}
			tells(t, text(m), n.Step(m))
			is(t, text(m), []any{n.Hard(), n.Role(), n.Leader(), n.Commit()}, before)
		}
	}
	for _, m := range right() {
		for me := range 4 {
			n := stands(t, me, fresh(0, 1, 2, 3))
			before := n.Hard()
			if m.To == me {
				continue
			}
			tells(t, text(m), n.Step(m))
			is(t, text(m), n.Hard(), before)
		}
	}
	for who := -1; who < 17; who++ {
		n := stands(t, 0, fresh(0, 1, 2))
		m := vote(who, 0, 1, 0, 0)
		if out := n.Step(m); (len(out) == 1) != (who > 0 && who < 16) {
			t.Errorf("%+v: told %+v", m, out)
		}
	}
}

package raft_test

import (
	"slices"

	"muniment/api"
)

// plain is a replica by the document's words: the log is a map of indexes, and all is worked out anew where it is asked.
type plain struct {
	me, term, vote      int
	base, baseTerm      int
	snap                string
	baseConf            []int
	log                 map[int]api.LogEntry
	role, leader        int
	commit              int
	draws               []int
	ticks, limit, heard int
	yes                 map[int]bool
	next, had, off      map[int]int
	gotIndex, gotTerm   int
	got                 string
}

// newPlain is one that stands up.
func newPlain(me int, h api.Hard, draws []int) *plain {
	p := &plain{me: me, term: h.Term, vote: h.Vote, base: h.BaseIndex, baseTerm: h.BaseTerm, snap: h.Base, baseConf: h.BaseConf,
		log: map[int]api.LogEntry{}, role: api.Follower, leader: -1, commit: h.BaseIndex, draws: draws}
	for i, e := range h.Log {
		p.log[h.BaseIndex+1+i] = e
	}
	p.anew()
	return p
}

// hard is what it keeps.
func (p *plain) hard() api.Hard {
	h := api.Hard{Term: p.term, Vote: p.vote, BaseIndex: p.base, BaseTerm: p.baseTerm, Base: p.snap, BaseConf: p.baseConf}
	for i := p.base + 1; i <= p.last(); i++ {
		h.Log = append(h.Log, p.log[i])
	}
	return h
}

func (p *plain) last() int { return p.base + len(p.log) }

func (p *plain) termAt(i int) int {
	if i == p.base {
		return p.baseTerm
	}
	return p.log[i].Term
}

// parts is who takes part by the entries up to an index, and where it is said.
func (p *plain) parts(upTo int) ([]int, int) {
	for i := upTo; i > p.base; i-- {
		if p.log[i].Conf {
			return p.log[i].Members, i
		}
	}
	return p.baseConf, p.base
}

func (p *plain) members() []int {
	l, _ := p.parts(p.last())
	return l
}

func (p *plain) isIn() bool { return slices.Contains(p.members(), p.me) }

// most tells whether more than half of those that take part are such.
func (p *plain) most(such func(int) bool) bool {
	n := 0
	for _, who := range p.members() {
		if such(who) {
			n++
		}
	}
	return 2*n > len(p.members())
}

func (p *plain) anew() {
	d := 7*p.me + 3*p.term
	if len(p.draws) > 0 {
		d, p.draws = p.draws[0], p.draws[1:]
	}
	p.ticks, p.limit = 0, 10+(d%20+20)%20
}

func (p *plain) msg(kind, to int) api.RaftMsg {
	return api.RaftMsg{Kind: kind, From: p.me, To: to, Term: p.term}
}

func (p *plain) tick() []api.RaftMsg {
	p.ticks++
	p.heard++
	if p.role == api.Leader {
		if p.ticks%3 == 0 {
			return p.tellAll()
		}
		return nil
	}
	if p.ticks != p.limit {
		return nil
	}
	l, at := p.parts(p.last())
	ahead, _ := p.parts(at - 1)
	if !slices.Contains(l, p.me) && (at <= p.commit || !slices.Contains(ahead, p.me)) {
		p.anew()
		return nil
	}
	p.term++
	p.vote, p.role, p.leader = p.me, api.Candidate, -1
	p.anew()
	p.yes = map[int]bool{p.me: true}
	if p.most(func(who int) bool { return p.yes[who] }) {
		return p.lead()
	}
	var out []api.RaftMsg
	for _, who := range l {
		if who != p.me {
			m := p.msg(api.RaftVote, who)
			m.Index, m.LogTerm = p.last(), p.termAt(p.last())
			out = append(out, m)
		}
	}
	return out
}

func (p *plain) lead() []api.RaftMsg {
	p.role, p.leader, p.ticks = api.Leader, p.me, 0
	p.next, p.had, p.off = map[int]int{}, map[int]int{}, map[int]int{}
	return p.put(api.LogEntry{Term: p.term})
}

func (p *plain) put(e api.LogEntry) []api.RaftMsg {
	was := p.members()
	p.log[p.last()+1] = e
	for _, who := range p.members() {
		if _, is := p.next[who]; !is || !slices.Contains(was, who) {
			p.next[who], p.had[who], p.off[who] = p.last()+1, 0, 0
		}
	}
	p.commits()
	return p.tellAll()
}

func (p *plain) tellAll() []api.RaftMsg {
	var out []api.RaftMsg
	for _, who := range p.members() {
		if who != p.me {
			out = append(out, p.tell(who))
		}
	}
	return out
}

func (p *plain) tell(who int) api.RaftMsg {
	ahead := p.next[who] - 1
	if ahead >= p.base {
		m := p.msg(api.RaftAppend, who)
		m.Index, m.LogTerm, m.Commit = ahead, p.termAt(ahead), p.commit
		for i := ahead + 1; i <= p.last() && len(m.Entries) < 16; i++ {
			m.Entries = append(m.Entries, p.log[i])
		}
		return m
	}
	m := p.msg(api.RaftSnap, who)
	m.Index, m.LogTerm, m.Members, m.Offset = p.base, p.baseTerm, p.baseConf, min(p.off[who], len(p.snap))
	m.Piece = p.snap[m.Offset:]
	if len(m.Piece) > 200 {
		m.Piece = m.Piece[:200]
	}
	m.Done = m.Offset+len(m.Piece) == len(p.snap)
	return m
}

func (p *plain) commits() {
	for i := p.last(); i > p.commit; i-- {
		if p.termAt(i) == p.term && p.most(func(who int) bool { return who == p.me || p.had[who] >= i }) {
			p.commit = i
		}
	}
	if _, at := p.parts(p.last()); at <= p.commit && !p.isIn() {
		p.role, p.leader = api.Follower, -1
		p.anew()
	}
}

// step takes a message that may be, by how the tests for Check hold it.
func (p *plain) step(m api.RaftMsg) []api.RaftMsg {
	if m.To != p.me || !mayBe(m) {
		return nil
	}
	if m.Kind == api.RaftVote && (p.role == api.Leader || p.role == api.Follower && p.leader >= 0 && p.heard < 10) {
		return nil
	}
	if m.Term > p.term {
		p.term, p.vote, p.leader = m.Term, -1, -1
		if p.role != api.Follower {
			p.role = api.Follower
			p.anew()
		}
	}
	switch m.Kind {
	case api.RaftVote:
		return p.asked(m)
	case api.RaftVoted:
		if p.role == api.Candidate && m.Yes && m.Term == p.term {
			p.yes[m.From] = true
			if p.most(func(who int) bool { return p.yes[who] }) {
				return p.lead()
			}
		}
		return nil
	case api.RaftAppend, api.RaftSnap:
		answer := p.msg(m.Kind+1, m.From)
		if m.Term == p.term {
			p.role, p.leader, p.heard = api.Follower, m.From, 0
			p.anew()
			if m.Kind == api.RaftAppend {
				p.entries(m, &answer)
			} else {
				p.piece(m, &answer)
			}
		}
		return []api.RaftMsg{answer}
	}
	if p.role != api.Leader || m.Term != p.term || !slices.Contains(p.members(), m.From) {
		return nil
	}
	return p.answered(m)
}

func (p *plain) asked(m api.RaftMsg) []api.RaftMsg {
	answer := p.msg(api.RaftVoted, m.From)
	mine := p.termAt(p.last())
	newer := m.LogTerm > mine || m.LogTerm == mine && m.Index >= p.last()
	if m.Term == p.term && newer && (p.vote == -1 || p.vote == m.From) {
		p.vote, p.ticks, answer.Yes = m.From, 0, true
	}
	return []api.RaftMsg{answer}
}

func (p *plain) entries(m api.RaftMsg, answer *api.RaftMsg) {
	ok := m.Index < p.base || m.Index <= p.last() && p.termAt(m.Index) == m.LogTerm
	for i, e := range m.Entries {
		index := m.Index + 1 + i
		if index > p.base && index <= p.commit && text(p.log[index]) != text(e) {
			ok = false
		}
	}
	if !ok {
		answer.Index = min(p.last(), max(m.Index-1, 0))
		return
	}
	for i, e := range m.Entries {
		index := m.Index + 1 + i
		if index <= p.base {
			continue
		}
		if index <= p.last() && text(p.log[index]) != text(e) {
			for k := p.last(); k >= index; k-- {
				delete(p.log, k)
			}
		}
		p.log[index] = e
	}
	answer.Yes, answer.Index = true, m.Index+len(m.Entries)
	p.commit = max(p.commit, min(m.Commit, answer.Index))
}

func (p *plain) piece(m api.RaftMsg, answer *api.RaftMsg) {
	answer.Yes, answer.Index = true, m.Index
	if m.Index <= p.commit {
		answer.Done = true
		return
	}
	if m.Index != p.gotIndex || m.LogTerm != p.gotTerm {
		p.gotIndex, p.gotTerm, p.got = m.Index, m.LogTerm, ""
	}
	if m.Offset != len(p.got) {
		answer.Offset = len(p.got)
		return
	}
	p.got += m.Piece
	answer.Offset = len(p.got)
	if !m.Done {
		return
	}
	stay := m.Index <= p.last() && p.termAt(m.Index) == m.LogTerm
	for i := range p.log {
		if i <= m.Index || !stay {
			delete(p.log, i)
		}
	}
	p.base, p.baseTerm, p.snap, p.baseConf, p.commit = m.Index, m.LogTerm, p.got, m.Members, m.Index
	p.gotIndex, p.gotTerm, p.got = 0, 0, ""
	answer.Offset, answer.Done = 0, true
}

func (p *plain) answered(m api.RaftMsg) []api.RaftMsg {
	who := m.From
	switch {
	case !m.Yes:
		p.next[who] = max(p.had[who]+1, min(p.next[who]-1, m.Index+1))
		return []api.RaftMsg{p.tell(who)}
	case m.Kind == api.RaftSnapped && !m.Done:
		if m.Index != p.base {
			return nil
		}
		p.off[who] = m.Offset
		if p.next[who]-1 < p.base {
			return []api.RaftMsg{p.tell(who)}
		}
		return nil
	}
	p.had[who] = max(p.had[who], min(m.Index, p.last()))
	p.next[who] = max(p.next[who], p.had[who]+1)
	p.commits()
	if p.role == api.Leader && p.next[who] <= p.last() {
		return []api.RaftMsg{p.tell(who)}
	}
	return nil
}

func (p *plain) propose(s string) (int, []api.RaftMsg, bool) {
	if p.role != api.Leader {
		return 0, nil, false
	}
	out := p.put(api.LogEntry{Term: p.term, S: s})
	return p.last(), out, true
}

func (p *plain) change(l []int) (int, []api.RaftMsg, bool) {
	now, at := p.parts(p.last())
	if p.role != api.Leader || p.termAt(p.commit) != p.term || at > p.commit || !follows(now, l) {
		return 0, nil, false
	}
	out := p.put(api.LogEntry{Term: p.term, Conf: true, Members: l})
	return p.last(), out, true
}

func (p *plain) compact(index int, s string) bool {
	if index <= p.base || index > p.commit {
		return false
	}
	p.baseConf, _ = p.parts(index)
	p.baseTerm = p.termAt(index)
	for i := p.base + 1; i <= index; i++ {
		delete(p.log, i)
	}
	p.base, p.snap = index, s
	clear(p.off)
	return true
}

func (p *plain) entry(index int) (api.LogEntry, bool) {
	if index <= p.base || index > p.commit {
		return api.LogEntry{}, false
	}
	return p.log[index], true
}

// takePart tells whether these may take part.
func takePart(l []int) bool {
	for i, who := range l {
		if who < 0 || who > 15 || i > 0 && who <= l[i-1] {
			return false
		}
	}
	return len(l) > 0
}

// follows tells whether one list is another one with one more or one less.
func follows(a, b []int) bool {
	apart := 0
	for who := range 16 {
		if slices.Contains(a, who) != slices.Contains(b, who) {
			apart++
		}
	}
	return takePart(a) && takePart(b) && apart == 1
}

// mayBe tells whether a message may be, by the words of 14.2.
func mayBe(m api.RaftMsg) bool {
	for _, n := range []int{m.Term, m.Index, m.LogTerm, m.Commit, m.Offset} {
		if n < 0 || n > 1<<31-1 {
			return false
		}
	}
	return m.Kind >= 1 && m.Kind <= 6 && m.From >= 0 && m.From < 16 && m.To >= 0 && m.To < 16 && m.From != m.To &&
		m.LogTerm <= m.Term && len(m.Entries) <= 16 && len(m.Piece) <= 200
}

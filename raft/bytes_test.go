package raft_test

import (
	"encoding/binary"
	"math"
	"strings"
	"testing"

	"muniment/api"
	"muniment/raft"
	"muniment/wire"
)

const top = 1<<31 - 1 // of counts

// taken is a message that was put, and is taken again.
func taken(t *testing.T, m api.RaftMsg) api.RaftMsg {
	t.Helper()
	w := wire.NewWriter()
	raft.Put(w, m)
	r := wire.NewReader(w.All())
	out := raft.Take(r)
	if e := r.End(); e != api.OK {
		t.Fatalf("%+v is taken with the error %d", m, e)
	}
	return out
}

// with is a message with something else.
func with(m api.RaftMsg, change func(m *api.RaftMsg)) api.RaftMsg {
	change(&m)
	return m
}

// right is messages that may be, up to both ends.
func right() []api.RaftMsg {
	some := appended(1, 2, 5, 4, 3, 2, api.LogEntry{Term: 3, S: "a"}, conf(4, 0, 15))
	l := []api.RaftMsg{some, vote(0, 15, 1, 0, 0), voted(15, 0, 0, true), took(3, 4, 5, 6, false), piece(1, 2, 3, 4, 3, 5, "p", true), snapped(2, 1, 3, 4, 200, false)}
	for kind := 1; kind <= 6; kind++ {
		l = append(l, with(some, func(m *api.RaftMsg) { m.Kind = kind }), api.RaftMsg{Kind: kind, From: 1})
	}
	for who := range 16 {
		l = append(l, with(some, func(m *api.RaftMsg) { m.From, m.To = who, (who+1)%16 }), with(some, func(m *api.RaftMsg) { m.From, m.To = (who+1)%16, who }))
	}
	return append(l,
		with(some, func(m *api.RaftMsg) { m.Term, m.LogTerm = 0, 0 }),
		with(some, func(m *api.RaftMsg) { m.Term = top }),
		with(some, func(m *api.RaftMsg) { m.Term, m.LogTerm = top, top }),
		with(some, func(m *api.RaftMsg) { m.LogTerm = 5 }),
		with(some, func(m *api.RaftMsg) { m.LogTerm = 0 }),
		with(some, func(m *api.RaftMsg) { m.Index, m.Commit, m.Offset = 0, 0, 0 }),
		with(some, func(m *api.RaftMsg) { m.Index = top }),
		with(some, func(m *api.RaftMsg) { m.Commit = top }),
		with(some, func(m *api.RaftMsg) { m.Offset = top }),
		with(some, func(m *api.RaftMsg) { m.Entries = nil }),
		with(some, func(m *api.RaftMsg) { m.Entries = entries(many(5, 15)...) }),
		with(some, func(m *api.RaftMsg) { m.Entries = entries(many(5, 16)...) }),
		with(some, func(m *api.RaftMsg) { m.Entries = []api.LogEntry{{Term: top, S: long(1 << 20)}} }),
		with(some, func(m *api.RaftMsg) { m.Piece = long(199) }),
		with(some, func(m *api.RaftMsg) { m.Piece = long(200) }),
		with(some, func(m *api.RaftMsg) { m.Members = []int{0} }),
		with(some, func(m *api.RaftMsg) { m.Members = []int{0, 1, 2, 3, 4, 5, 6, 7, 8, 9, 10, 11, 12, 13, 14, 15} }),
	)
}

// wrong is messages that may not be, each by one thing.
func wrong() []api.RaftMsg {
	some := appended(1, 2, 5, 4, 3, 2, api.LogEntry{Term: 3, S: "a"})
	var l []api.RaftMsg
	for _, kind := range []int{math.MinInt, -1, 0, 7, 8, math.MaxInt} {
		l = append(l, with(some, func(m *api.RaftMsg) { m.Kind = kind }))
	}
	for _, who := range []int{math.MinInt, -1, 16, 17, math.MaxInt} {
		l = append(l, with(some, func(m *api.RaftMsg) { m.From = who }), with(some, func(m *api.RaftMsg) { m.To = who }))
	}
	for who := range 16 { // one alone is not two
		l = append(l, with(some, func(m *api.RaftMsg) { m.From, m.To = who, who }))
	}
	for _, k := range []int{math.MinInt, -1, top + 1, math.MaxInt} {
		l = append(l,
			with(some, func(m *api.RaftMsg) { m.Term = k }),
			with(some, func(m *api.RaftMsg) { m.Index = k }),
			with(some, func(m *api.RaftMsg) { m.LogTerm = k }),
			with(some, func(m *api.RaftMsg) { m.Term, m.LogTerm = k, k }),
			with(some, func(m *api.RaftMsg) { m.Commit = k }),
			with(some, func(m *api.RaftMsg) { m.Offset = k }))
	}
	return append(l,
		api.RaftMsg{},
		with(some, func(m *api.RaftMsg) { m.LogTerm = 6 }),
		with(some, func(m *api.RaftMsg) { m.Term, m.LogTerm = 0, 1 }),
		with(some, func(m *api.RaftMsg) { m.Term, m.LogTerm = top-1, top }),
		with(some, func(m *api.RaftMsg) { m.Entries = entries(many(5, 17)...) }),
		with(some, func(m *api.RaftMsg) { m.Entries = entries(many(5, 300)...) }),
		with(some, func(m *api.RaftMsg) { m.Piece = long(201) }),
		with(some, func(m *api.RaftMsg) { m.Piece = long(9999) }),
	)
}

// Promise 14.2: Check of all that may be, and of each thing that may not, at both ends and beyond them.
func TestCheck(t *testing.T) {
	for _, m := range right() {
		if !raft.Check(m) {
			t.Errorf("%.300s may be", text(m))
		}
	}
	for _, m := range wrong() {
		if raft.Check(m) {
			t.Errorf("%.300s may not be", text(m))
		}
	}
}

// number is a count's bytes by the library.
func number(n int) string { return string(binary.BigEndian.AppendUint32(nil, uint32(n))) }

// yes is the byte of yes or no.
func yes(b bool) string {
	if b {
		return "\x01"
	}
	return "\x00"
}

// list is the bytes of who takes part.
func list(l []int) string {
	s := string([]byte{byte(len(l))})
	for _, who := range l {
		s += string([]byte{byte(who)})
	}
	return s
}

// bytesOfEntry is an entry's bytes by the words.
func bytesOfEntry(e api.LogEntry) string {
	if e.Conf {
		return number(e.Term) + "\x01" + list(e.Members)
	}
	return number(e.Term) + "\x00" + number(len(e.S)) + e.S
}

// bytesOf is a message's bytes by the words.
func bytesOf(m api.RaftMsg) string {
	s := ""
	for _, k := range []int{m.Kind, m.From, m.To, m.Term, m.Index, m.LogTerm, m.Commit, m.Offset} {
		s += number(k)
	}
	s += yes(m.Yes) + yes(m.Done) + number(len(m.Entries))
	for _, e := range m.Entries {
		s += bytesOfEntry(e)
	}
	s += number(len(m.Piece)) + m.Piece
	if len(m.Members) == 0 {
		return s + "\x00"
	}
	return s + "\x01" + list(m.Members)
}

// Promise 14.2: a message's bytes, written out by hand.
func TestPutByHand(t *testing.T) {
	m := api.RaftMsg{Kind: 3, From: 1, To: 2, Term: 258, Index: 5, LogTerm: 6, Commit: 7, Yes: true, Entries: []api.LogEntry{{Term: 9, S: "ab"}, conf(8, 3, 15)},
		Offset: 10, Piece: "xyz", Members: []int{4}}
	want := "\x00\x00\x00\x03\x00\x00\x00\x01\x00\x00\x00\x02\x00\x00\x01\x02\x00\x00\x00\x05\x00\x00\x00\x06\x00\x00\x00\x07\x00\x00\x00\x0a" + "\x01\x00" +
		"\x00\x00\x00\x02" + "\x00\x00\x00\x09\x00\x00\x00\x00\x02ab" + "\x00\x00\x00\x08\x01\x02\x03\x0f" + "\x00\x00\x00\x03xyz" + "\x01\x01\x04"
	w := wire.NewWriter()
	raft.Put(w, m)
	is(t, "put", []byte(w.All()), []byte(want))
	is(t, "taken", raft.Take(wire.NewReader(want)), m)
}

// Promise 14.2: Put and Take of each kind, with and without entries, with and without members, between others: what was put is taken again.
func TestPutAndTake(t *testing.T) {
	w, all := wire.NewWriter(), ""
	l := append(right(), api.RaftMsg{}, api.RaftMsg{Kind: top, From: top, To: top, Term: 0, LogTerm: top}, piece(1, 2, 3, 4, 3, 5, long(201), false))
	for _, m := range l {
		w.Text("between")
		raft.Put(w, m)
		all += number(7) + "between" + bytesOf(m)
	}
	if w.All() != all {
		t.Fatal("put otherwise than by the words")
	}
	r := wire.NewReader(all)
	for _, m := range l {
		r.Text(7)
		is(t, "taken", raft.Take(r), m)
	}
	if e := r.End(); e != api.OK {
		t.Error(e)
	}
}

// noMessage holds that bytes are no message: the error, and an empty one.
func noMessage(t *testing.T, s string, want api.Errno) {
	t.Helper()
	r := wire.NewReader(s)
	m := raft.Take(r)
	if e := r.End(); e != want {
		t.Errorf("%.200q: the error %d, want %d", s, e, want)
	}
	if want != api.ErrMore {
		is(t, "with an error", m, api.RaftMsg{})
	}
}

// Promise 14.2: bytes that end anywhere are ErrCut, and bytes that are left over ErrMore.
func TestTakeOfWhatIsCut(t *testing.T) {
	for _, m := range right() {
		s := bytesOf(m)
		if len(s) > 5000 {
			noMessage(t, s[:len(s)-1], api.ErrCut)
			continue
		}
		for n := range len(s) {
			noMessage(t, s[:n], api.ErrCut)
		}
		noMessage(t, s+"\x00", api.ErrMore)
		noMessage(t, s+s, api.ErrMore)
	}
	r := wire.NewReader(bytesOf(right()[0]))
	r.Fail(api.ErrDead)
	is(t, "behind an error", raft.Take(r), api.RaftMsg{})
	is(t, "the first error stays", r.Err(), api.ErrDead)
}

// Promise 14.2: counts above 2^31 - 1, and of entries above 16, are ErrMany; a yes that is none, and members that may not be, are ErrForm.
func TestTakeOfWhatMayNotBe(t *testing.T) {
	m := appended(1, 2, 5, 4, 3, 2, api.LogEntry{Term: 3, S: "a"}, conf(4, 0, 15))
	m.Piece, m.Members = "p", []int{3, 4}
	s := bytesOf(m)
	put := func(at int, bytes string) string { return s[:at] + bytes + s[at+len(bytes):] }
	for i := range 8 {
		noMessage(t, put(4*i, "\x80\x00\x00\x00"), api.ErrMany)
		noMessage(t, put(4*i, "\xff\xff\xff\xff"), api.ErrMany)
		r := wire.NewReader(put(4*i, "\x7f\xff\xff\xff"))
		if raft.Take(r); r.End() != api.OK {
			t.Errorf("count %d: %d", i, r.Err())
		}
	}
	for _, at := range []int{32, 33, strings.LastIndex(s, "p") + 1} {
		noMessage(t, put(at, "\x02"), api.ErrForm)
		noMessage(t, put(at, "\xff"), api.ErrForm)
	}
	for _, n := range []int{17, 18, 255, top} {
		noMessage(t, put(34, number(n)), api.ErrMany)
	}
	long17 := with(m, func(m *api.RaftMsg) { m.Entries = entries(many(5, 17)...) })
	noMessage(t, bytesOf(long17), api.ErrMany)
	noMessage(t, put(38, "\x80"), api.ErrMany)             // the first entry's term
	noMessage(t, put(42, "\x02"), api.ErrForm)             // whether it says who takes part
	noMessage(t, put(43, "\x00\x10\x00\x01"), api.ErrMany) // the bytes of its text
	noMessage(t, put(43, "\x00\x10\x00\x00"), api.ErrCut)
	piece := strings.LastIndex(s, "p") - 4
	noMessage(t, put(piece, "\x7f\xff\xff\xff"), api.ErrCut)
	noMessage(t, put(piece, "\xff\xff\xff\xff"), api.ErrMany)
	for _, l := range [][]int{{}, {4, 3}, {3, 3}, {16}, {0, 16}, {255}, {0, 1, 2, 3, 4, 5, 6, 7, 8, 9, 10, 11, 12, 13, 14, 15, 16}} {
		noMessage(t, s[:len(s)-3]+list(l), api.ErrForm)
		noMessage(t, bytesOf(with(m, func(m *api.RaftMsg) { m.Entries = append(entries(1), conf(1, l...), conf(1, 2)) })), api.ErrForm)
		noEntry(t, bytesOfEntry(conf(1, l...)), api.ErrForm)
	}
}

// noEntry holds that bytes are no entry: the error, and an empty one.
func noEntry(t *testing.T, s string, want api.Errno) {
	t.Helper()
	r := wire.NewReader(s)
	e := raft.TakeEntry(r)
	if r.Err() != want {
		t.Errorf("%.200q: the error %d, want %d", s, r.Err(), want)
	}
	is(t, "with an error", e, api.LogEntry{})
}

// Promise 14.2: entries that are texts, up to 2^20 bytes, and entries that say who takes part; what was put is taken again, and what may not be is not.
func TestEntries(t *testing.T) {
	l := []api.LogEntry{{}, {Term: 1}, {Term: top, S: "a"}, {Term: 2, S: "\x00\xff"}, {S: long(1 << 20)}, conf(0, 0), conf(top, 15), conf(3, 0, 1, 2, 3, 4, 5, 6, 7, 8, 9, 10, 11, 12, 13, 14, 15)}
	w, all := wire.NewWriter(), ""
	for _, e := range l {
		raft.PutEntry(w, e)
		all += bytesOfEntry(e)
	}
	if w.All() != all {
		t.Fatal("put otherwise than by the words")
	}
	r := wire.NewReader(all)
	for _, e := range l {
		is(t, "taken", raft.TakeEntry(r), e)
	}
	if e := r.End(); e != api.OK {
		t.Error(e)
	}
	for _, e := range l {
		s := bytesOfEntry(e)
		for n := range min(len(s), 30) {
			noEntry(t, s[:n], api.ErrCut)
		}
		noEntry(t, s[:len(s)-1], api.ErrCut)
		noEntry(t, "\x80"+s[1:], api.ErrMany)
		noEntry(t, s[:4]+"\x02"+s[5:], api.ErrForm)
	}
	noEntry(t, bytesOfEntry(api.LogEntry{Term: 1, S: long(1<<20 + 1)}), api.ErrMany)
	w = wire.NewWriter()
	raft.PutEntry(w, api.LogEntry{Term: 1, Conf: true, S: "not told", Members: []int{1}})
	raft.PutEntry(w, api.LogEntry{Term: 1, S: "told", Members: []int{1}})
	is(t, "who takes part or the text", w.All(), bytesOfEntry(conf(1, 1))+bytesOfEntry(api.LogEntry{Term: 1, S: "told"}))
}

package conf_test

import (
	"slices"
	"testing"

	"muniment/api"
	"muniment/conf"
)

// Promise 13.1: Latest of entries as they are written down.
func TestLatestByHand(t *testing.T) {
	text := api.LogEntry{Term: 3, S: "x"}
	loud := api.LogEntry{Term: 4, S: "y", Members: []int{9}} // a text all the same
	base := []int{0, 4}
	conf1 := api.LogEntry{Term: 1, Conf: true, Members: []int{0, 2}}
	conf2 := api.LogEntry{Conf: true, Members: []int{0, 2, 7}}
	none := api.LogEntry{Term: 9, Conf: true}
	empty := api.LogEntry{Conf: true, Members: []int{}, S: "z"}
	for _, c := range []struct {
		entries []api.LogEntry
		who     []int
		at      int
	}{
		{nil, base, 0},
		{[]api.LogEntry{}, base, 0},
		{[]api.LogEntry{text}, base, 0},
		{[]api.LogEntry{{}}, base, 0},
		{[]api.LogEntry{loud}, base, 0},
		{[]api.LogEntry{text, loud, text}, base, 0},
		{[]api.LogEntry{conf1}, []int{0, 2}, 1},
		{[]api.LogEntry{conf1, text, text}, []int{0, 2}, 1},
		{[]api.LogEntry{text, conf1, text}, []int{0, 2}, 2},
		{[]api.LogEntry{text, text, conf1}, []int{0, 2}, 3},
		{[]api.LogEntry{text, conf1, loud}, []int{0, 2}, 2},
		{[]api.LogEntry{conf1, conf2}, []int{0, 2, 7}, 2},
		{[]api.LogEntry{conf2, conf1}, []int{0, 2}, 2},
		{[]api.LogEntry{conf1, text, conf2, text, text}, []int{0, 2, 7}, 3},
		{[]api.LogEntry{conf2, conf2, conf2, loud}, []int{0, 2, 7}, 3},
		{[]api.LogEntry{none}, nil, 1},
		{[]api.LogEntry{conf1, none}, nil, 2},
		{[]api.LogEntry{conf1, empty, text}, nil, 2},
		{[]api.LogEntry{none, conf1}, []int{0, 2}, 2},
		{[]api.LogEntry{{Conf: true, Members: []int{3, 1, 99, -1, 3}}}, []int{3, 1, 99, -1, 3}, 1},
	} {
		if who, at := conf.Latest(base, c.entries); !slices.Equal(who, c.who) || at != c.at {
			t.Errorf("Latest of %+v: %v, %d; want %v, %d", c.entries, who, at, c.who, c.at)
		}
	}
}

// bases is lists that may be a base's, and ones that may not.
func bases() [][]int {
	return append(wrong(), []int{0}, []int{1, 4}, []int{0, 1, 2}, upTo(16))
}

// kinds is entries of each kind.
func kinds() []api.LogEntry {
	return []api.LogEntry{
		{Term: 1, S: "a"},
		{Term: 2, S: "", Members: []int{4}},
		{Term: 3, Conf: true, Members: []int{0, 2}},
		{Term: 4, Conf: true},
		{Term: 5, Conf: true, S: "b", Members: upTo(16)},
	}
}

// drawn is all lists of up to so many entries of the kinds, each of which is its own.
func drawn(most int) [][]api.LogEntry {
	out := [][]api.LogEntry{nil}
	for from := 0; len(out[from]) < most; from++ {
		for _, e := range kinds() {
			l := entries(out[from])
			e.Members = deep(e.Members)
			out = append(out, append(l, e))
		}
	}
	return out
}

// entries is a list of entries of its own, made by hand.
func entries(l []api.LogEntry) []api.LogEntry {
	out := make([]api.LogEntry, len(l))
	for i, e := range l {
		e.Members = deep(e.Members)
		out[i] = e
	}
	return out
}

// sameEntries tells whether two lists of entries are the same.
func sameEntries(a, b []api.LogEntry) bool {
	return slices.EqualFunc(a, b, func(x, y api.LogEntry) bool {
		return x.Term == y.Term && x.S == y.S && x.Conf == y.Conf && slices.Equal(x.Members, y.Members)
	})
}

// Promise 13.1: of all lists of a few entries it is what one finds who goes over them from the front.
func TestLatest(t *testing.T) {
	for _, l := range drawn(4) {
		for _, base := range [][]int{nil, {}, {0}, {0, 1, 2}} {
			want, place := base, 0
			for i, e := range l {
				if e.Conf {
					want, place = e.Members, i+1
				}
			}
			if who, at := conf.Latest(base, l); !slices.Equal(who, want) || at != place {
				t.Errorf("Latest(%v, %+v): %v, %d; want %v, %d", base, l, who, at, want, place)
			}
		}
	}
}

// Promise 13.1: the base's, whatever it is, of entries without Conf; of others it is not asked.
func TestLatestOfBases(t *testing.T) {
	for _, base := range bases() {
		if who, at := conf.Latest(base, nil); !slices.Equal(who, base) || at != 0 {
			t.Errorf("%v: %v, %d", base, who, at)
		}
		if who, at := conf.Latest(base, kinds()[:2]); !slices.Equal(who, base) || at != 0 {
			t.Errorf("%v: %v, %d", base, who, at)
		}
		if who, at := conf.Latest(base, kinds()[:3]); !slices.Equal(who, []int{0, 2}) || at != 3 {
			t.Errorf("%v: %v, %d", base, who, at)
		}
	}
}

// Promise 13.1: the place in a long list, at each end.
func TestLatestOfMany(t *testing.T) {
	const n = 100000
	l := make([]api.LogEntry, n)
	l[0] = api.LogEntry{Conf: true, Members: []int{1}}
	if who, at := conf.Latest([]int{0}, l); !slices.Equal(who, []int{1}) || at != 1 {
		t.Error(who, at)
	}
	l[n-1] = api.LogEntry{Conf: true, Members: []int{2}}
	if who, at := conf.Latest([]int{0}, l); !slices.Equal(who, []int{2}) || at != n {
		t.Error(who, at)
	}
	if who, at := conf.Latest([]int{0}, l[:n-1]); !slices.Equal(who, []int{1}) || at != 1 {
		t.Error("what stands behind a list's end is looked at: ", who, at)
	}
}

// Rule R2: the base and the entries are left as they were. Rule R4: asked again, the same is answered.
func TestLatestLeavesWhatIsHandedIn(t *testing.T) {
	for _, l := range drawn(3) {
		base, all := roomy([]int{0, 3})
		was, wasBase := entries(l), deep(all)
		who, at := conf.Latest(base, l)
		again, place := conf.Latest(base, l)
		if !slices.Equal(who, again) || at != place {
			t.Errorf("%+v: %v, %d, then %v, %d", l, who, at, again, place)
		}
		if !sameEntries(l, was) || !slices.Equal(all, wasBase) {
			t.Fatalf("%+v behind %v, were %+v and %v", l, all, was, wasBase)
		}
	}
}

// Rule R2: what is told is the caller's own: neither is changed with the other one, nor put behind it.
func TestLatestIsTheCallersOwn(t *testing.T) {
	for _, l := range drawn(3) {
		base, room := roomy([]int{0, 3})
		var rooms [][]int // of all lists that are handed in
		for i := range l {
			members, all := roomy(l[i].Members)
			l[i].Members, rooms = members, append(rooms, all)
		}
		rooms = append(rooms, room)
		was := slices.Concat(rooms...)
		who, at := conf.Latest(base, l)
		for i := range who {
			who[i] += 50
		}
		_ = append(who, 99, 99, 99)
		if !slices.Equal(slices.Concat(rooms...), was) {
			t.Fatalf("place %d of %+v: what was handed in is changed with what is told", at, l)
		}
		who, _ = conf.Latest(base, l)
		told := deep(who)
		for _, all := range rooms {
			for i := range all {
				all[i] += 50
			}
		}
		if !slices.Equal(who, told) {
			t.Fatalf("place %d of %+v: what is told is changed with what was handed in", at, l)
		}
	}
}

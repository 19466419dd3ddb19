package conf_test

import (
	"math"
	"slices"
	"testing"

	"muniment/api"
	"muniment/conf"
)

// plainHas tells whether somebody is in a list, one by one.
func plainHas(l []int, who int) bool {
	for _, k := range l {
		if k == who {
			return true
		}
	}
	return false
}

// plainWith is a rising list with somebody: those below, that one, those above.
func plainWith(l []int, who int) []int {
	var below, above []int
	for _, k := range l {
		if k < who {
			below = append(below, k)
		}
		if k > who {
			above = append(above, k)
		}
	}
	return append(append(below, who), above...)
}

// plainWithout is a list without somebody: all others.
func plainWithout(l []int, who int) []int {
	var out []int
	for _, k := range l {
		if k != who {
			out = append(out, k)
		}
	}
	return out
}

// Promise 13.1: Has, With and Without of lists as they are written down: of none, of one, of several, of all; at the front, in between, at the end; of who is there and of who is not.
func TestListsByHand(t *testing.T) {
	all := upTo(16)
	for _, c := range []struct {
		l             []int
		who           int
		has           bool
		with, without []int
	}{
		{nil, 0, false, []int{0}, nil},
		{[]int{}, 15, false, []int{15}, nil},
		{[]int{3}, 3, true, []int{3}, nil},
		{[]int{3}, 2, false, []int{2, 3}, []int{3}},
		{[]int{3}, 4, false, []int{3, 4}, []int{3}},
		{[]int{0}, 0, true, []int{0}, nil},
		{[]int{1, 5}, 3, false, []int{1, 3, 5}, []int{1, 5}},
		{[]int{1, 5}, 0, false, []int{0, 1, 5}, []int{1, 5}},
		{[]int{1, 5}, 9, false, []int{1, 5, 9}, []int{1, 5}},
		{[]int{1, 5}, 1, true, []int{1, 5}, []int{5}},
		{[]int{1, 5}, 5, true, []int{1, 5}, []int{1}},
		{[]int{1, 3, 5}, 3, true, []int{1, 3, 5}, []int{1, 5}},
		{[]int{0, 1, 2}, 3, false, []int{0, 1, 2, 3}, []int{0, 1, 2}},
		{all, 0, true, all, all[1:]},
		{all, 7, true, all, but(16, 7)},
		{all, 15, true, all, all[:15]},
		{but(16, 0), 0, false, all, all[1:]},
		{but(16, 7), 7, false, all, but(16, 7)},
		{all[:15], 15, false, all, all[:15]},
		{all, 16, false, upTo(17), all},
		{all, -1, false, append([]int{-1}, all...), all},
		{[]int{0, 4}, math.MaxInt, false, []int{0, 4, math.MaxInt}, []int{0, 4}},
		{[]int{0, 4}, math.MinInt, false, []int{math.MinInt, 0, 4}, []int{0, 4}},
		{[]int{0, 4}, 4 + 1<<32, false, []int{0, 4, 4 + 1<<32}, []int{0, 4}},
	} {
		if got := conf.Has(c.l, c.who); got != c.has {
			t.Errorf("Has(%v, %d): %t", c.l, c.who, got)
		}
		if got := conf.With(c.l, c.who); !slices.Equal(got, c.with) {
			t.Errorf("With(%v, %d): %v, want %v", c.l, c.who, got, c.with)
		}
		if got := conf.Without(c.l, c.who); !slices.Equal(got, c.without) {
			t.Errorf("Without(%v, %d): %v, want %v", c.l, c.who, got, c.without)
		}
	}
}

// Promise 13.1: of all rising lists of a few, and of everybody, it is as the plain ones tell.
func TestLists(t *testing.T) {
	for _, l := range rising() {
		for _, who := range whoever() {
			if got, want := conf.Has(l, who), plainHas(l, who); got != want {
				t.Errorf("Has(%v, %d): %t", l, who, got)
			}
			if got, want := conf.With(l, who), plainWith(l, who); !slices.Equal(got, want) {
				t.Errorf("With(%v, %d): %v, want %v", l, who, got, want)
			}
			if got, want := conf.Without(l, who), plainWithout(l, who); !slices.Equal(got, want) {
				t.Errorf("Without(%v, %d): %v, want %v", l, who, got, want)
			}
		}
	}
}

// Promise 13.1: who came is there, who went is not, and all others are as they were; what came and went leaves the list.
func TestListsComeAndGo(t *testing.T) {
	for _, l := range rising() {
		for _, who := range whoever() {
			with, without := conf.With(l, who), conf.Without(l, who)
			if !conf.Has(with, who) || conf.Has(without, who) {
				t.Errorf("%v, %d: %v and %v", l, who, with, without)
			}
			back := conf.Without(with, who)
			if conf.Has(l, who) {
				back = conf.With(without, who)
			}
			if !slices.Equal(back, l) {
				t.Errorf("%v, %d: there and back it is %v", l, who, back)
			}
		}
	}
}

// Rule R2: what is handed in is left as it was, with what stands ahead of it and behind it. Rule R4: asked again, the same is answered.
func TestListsLeaveWhatIsHandedIn(t *testing.T) {
	for _, l := range rising() {
		in, all := roomy(l)
		was := deep(all)
		for _, who := range whoever() {
			has, with, without := conf.Has(in, who), conf.With(in, who), conf.Without(in, who)
			if conf.Has(in, who) != has || !slices.Equal(conf.With(in, who), with) || !slices.Equal(conf.Without(in, who), without) {
				t.Fatalf("%v, %d: something else is answered again", l, who)
			}
			if !slices.Equal(with, plainWith(l, who)) || !slices.Equal(without, plainWithout(l, who)) {
				t.Fatalf("%v, %d: %v, %v", l, who, with, without)
			}
			if !slices.Equal(all, was) {
				t.Fatalf("%v, %d: what was handed in is %v, was %v", l, who, all, was)
			}
		}
	}
}

// Rule R2: what is told is the caller's own: neither is changed with the other one, nor put behind it.
func TestListsAreTheCallersOwn(t *testing.T) {
	for name, call := range map[string]func([]int, int) []int{"With": conf.With, "Without": conf.Without} {
		for _, l := range rising() {
			for _, who := range append(upTo(api.MaxReplicas), -1, 16) {
				in, all := roomy(l)
				was := deep(all)
				got := call(in, who)
				for i := range got {
					got[i] += 50
				}
				_ = append(got, 99, 99, 99)
				if !slices.Equal(all, was) {
					t.Fatalf("%s(%v, %d): what was handed in is changed with what is told", name, l, who)
				}
				got = call(in, who)
				told := deep(got)
				for i := range all {
					all[i] += 50
				}
				if !slices.Equal(got, told) {
					t.Fatalf("%s(%v, %d): what is told is changed with what was handed in", name, l, who)
				}
			}
		}
	}
}

// Rule R1: lists that do not rise are answered, too, and are left as they were.
func TestListsThatDoNotRise(t *testing.T) {
	for _, l := range append(wrong(), slices.Repeat([]int{3}, 1000), []int{9, 3, 3, 9, 0}) {
		in, all := roomy(l)
		was := deep(all)
		for _, who := range whoever() {
			if got := conf.Has(in, who); got != plainHas(l, who) {
				t.Errorf("Has(%v, %d): %t", l, who, got)
			}
			if !conf.Has(conf.With(in, who), who) || conf.Has(conf.Without(in, who), who) {
				t.Errorf("%v, %d: %v, %v", l, who, conf.With(in, who), conf.Without(in, who))
			}
		}
		if !slices.Equal(all, was) {
			t.Fatalf("%v, was %v", all, was)
		}
	}
}

package conf_test

import (
	"maps"
	"slices"
	"testing"

	"muniment/api"
	"muniment/conf"
)

// Promise 13.1: Most of lists as they are written down: of none, of one, of two, of three, of more; with others, with some that are named and are not among them, without a map.
func TestMostByHand(t *testing.T) {
	for _, c := range []struct {
		l     []int
		among map[int]bool
		most  bool
	}{
		{nil, nil, false},
		{[]int{}, nil, false},
		{nil, map[int]bool{}, false},
		{nil, map[int]bool{0: true, 1: true}, false},
		{[]int{0}, nil, false},
		{[]int{0, 1, 2}, nil, false},
		{[]int{0}, map[int]bool{}, false},
		{[]int{0}, map[int]bool{0: true}, true},
		{[]int{0}, map[int]bool{0: false}, false},
		{[]int{0}, map[int]bool{1: true, 2: true}, false},
		{[]int{0, 1}, map[int]bool{1: true}, false}, // just half
		{[]int{0, 1}, map[int]bool{0: true, 1: true}, true},
		{[]int{0, 1}, map[int]bool{0: true, 1: false}, false},
		{[]int{0, 1}, map[int]bool{0: true, 5: true, 6: true}, false},
		{[]int{0, 1, 2}, map[int]bool{0: true}, false},
		{[]int{0, 1, 2}, map[int]bool{0: true, 2: true}, true},
		{[]int{0, 1, 2}, map[int]bool{0: true, 1: false, 2: false}, false},
		{[]int{0, 1, 2}, map[int]bool{0: true, 3: true, 4: true, 5: true}, false},
		{[]int{0, 1, 2, 3}, map[int]bool{0: true, 3: true}, false}, // just half
		{[]int{0, 1, 2, 3}, map[int]bool{0: true, 1: true, 3: true}, true},
		{[]int{0, 1, 2, 3}, map[int]bool{0: true, 3: true, 4: true, -1: true}, false},
		{[]int{1, 3, 5, 7, 9}, map[int]bool{1: true, 9: true, 0: true}, false},
		{[]int{1, 3, 5, 7, 9}, map[int]bool{1: true, 5: true, 9: true}, true},
	} {
		if got := conf.Most(c.l, c.among); got != c.most {
			t.Errorf("Most(%v, %v): %t", c.l, c.among, got)
		}
	}
}

// Promise 13.1: of all lists of a few, among all of a few, named by what they are not or not named.
func TestMost(t *testing.T) {
	const lists = 1 << 7
	for among := range lists {
		bare, named, beside := set(among), set(among), set(among)
		for _, who := range of(lists - 1 - among) {
			named[who] = false
		}
		for who := 3; who < 5; who++ { // in none of the lists
			beside[who], beside[who-100] = true, true
		}
		for l := range lists {
			want := 2*many(l&among) > many(l)
			for _, m := range []map[int]bool{bare, named, beside} {
				if got := conf.Most(of(l), m); got != want {
					t.Errorf("Most(%v, %v): %t", of(l), m, got)
				}
			}
		}
	}
}

// Promise 13.1: just half is not more than half, one more than half is, of as many as may take part and of more.
func TestMostOfMany(t *testing.T) {
	for _, n := range append(upTo(api.MaxReplicas+2), 999, 1000) {
		among := map[int]bool{}
		for have := 0; have <= n; have++ {
			if got := conf.Most(upTo(n), among); got != (2*have > n) {
				t.Errorf("%d of %d: %t", have, n, got)
			}
			among[n-1-have] = true
		}
	}
}

// Rule R1: lists that may not be are answered, too. Rule R2: the list and the map are left as they were. Rule R4: asked again, the same is answered.
func TestMostLeavesWhatIsHandedIn(t *testing.T) {
	for _, l := range append(wrong(), []int{0, 3, 5}, upTo(16)) {
		for mask := range 1 << len(numbers) {
			in, all := roomy(l)
			among := set(mask)
			among[3], among[-1], among[16] = false, true, false
			was, wasAmong := deep(all), maps.Clone(among)
			if conf.Most(in, among) != conf.Most(in, among) || conf.Most(in, nil) {
				t.Errorf("Most(%v, %v)", l, among)
			}
			if !slices.Equal(all, was) || !maps.Equal(among, wasAmong) {
				t.Fatalf("%v among %v, were %v and %v", all, among, was, wasAmong)
			}
		}
	}
}

package conf_test

import (
	"slices"
	"testing"

	"muniment/api"
	"muniment/conf"
)

// Promise 13.1, the chapter's example, and lists as they are written down.
func TestNextByHand(t *testing.T) {
	if !conf.Next([]int{0, 1}, []int{0, 1, 2}) {
		t.Error("the chapter's example")
	}
	for _, c := range []struct {
		a, b []int
		may  bool
	}{
		{[]int{1, 2}, []int{1}, true},
		{[]int{1, 2}, []int{2}, true},
		{[]int{1}, []int{2}, false},       // one comes while another one goes
		{[]int{0, 1}, []int{0, 2}, false}, // at the end
		{[]int{0, 1}, []int{1, 2}, false}, // at the front and at the end
		{[]int{0, 1, 5}, []int{0, 2, 5}, false},
		{[]int{0, 1, 5}, []int{0, 2, 3, 5}, false}, // two come while one goes
		{[]int{0, 1, 5}, []int{2, 5}, false},       // one comes while two go
		{[]int{1}, nil, false},                     // the last one goes
		{nil, []int{1}, false},                     // the first one comes
		{[]int{1}, []int{}, false},
		{[]int{}, []int{1}, false},
		{nil, nil, false},
		{[]int{3}, []int{3}, false}, // the same
		{[]int{0, 7, 15}, []int{0, 7, 15}, false},
		{[]int{3}, []int{0, 3}, true},       // one more: at the front,
		{[]int{3}, []int{3, 15}, true},      // at the end,
		{[]int{0, 5}, []int{0, 2, 5}, true}, // in between
		{[]int{0, 2, 5}, []int{2, 5}, true}, // one less: at the front,
		{[]int{0, 2, 5}, []int{0, 2}, true}, // at the end,
		{[]int{0, 2, 5}, []int{0, 5}, true}, // in between
		{[]int{0}, []int{0, 1, 2}, false},   // two more
		{[]int{1}, []int{0, 1, 2}, false},
		{[]int{2}, []int{0, 1, 2}, false},
		{[]int{0, 1, 2}, []int{0}, false}, // two less
		{[]int{0, 1, 2}, []int{1}, false},
		{[]int{0, 1, 2}, []int{2}, false},
		{[]int{0, 1}, []int{2, 3}, false},
		{upTo(15), upTo(16), true},
		{upTo(16), upTo(15), true},
		{upTo(16), upTo(16)[1:], true},
		{upTo(16), upTo(16), false},
		{upTo(16), upTo(14), false},
		{upTo(16), upTo(17), false}, // too many
		{upTo(17), upTo(16), false},
		{upTo(17), upTo(18), false},
		{[]int{0}, []int{0, 16}, false}, // no replica
		{[]int{0, 16}, []int{0}, false},
		{[]int{0}, []int{-1, 0}, false},
		{[]int{-1, 0}, []int{0}, false},
		{[]int{0, 16}, []int{0, 1, 16}, false},
		{[]int{0, 1, 16}, []int{0, 16}, false},
		{[]int{0}, []int{1, 0}, false}, // that does not rise
		{[]int{1, 0}, []int{0}, false},
		{[]int{1, 0}, []int{2, 1, 0}, false},
		{[]int{2, 1, 0}, []int{1, 0}, false},
		{[]int{0}, []int{0, 0}, false}, // twice
		{[]int{0, 0}, []int{0}, false},
		{[]int{0, 0}, []int{0, 1}, false},
		{[]int{0, 0}, []int{0, 0, 1}, false},
		{[]int{0, 0, 1}, []int{0}, false},
		{[]int{0}, []int{0, 1, 1}, false},
	} {
		if got := conf.Next(c.a, c.b); got != c.may {
			t.Errorf("Next(%v, %v): %t", c.a, c.b, got)
		}
	}
}

// Promise 13.1: of any two lists of a few, one may follow the other one if they part in one alone, and neither is without anybody.
func TestNext(t *testing.T) {
	for a := range 1 << len(numbers) {
		for b := range 1 << len(numbers) {
			want := a != 0 && b != 0 && many(a^b) == 1
			if got := conf.Next(of(a), of(b)); got != want {
				t.Errorf("Next(%v, %v): %t", of(a), of(b), got)
			}
		}
	}
}

// Promise 13.1: with and without each one of all that may take part.
func TestNextOfMany(t *testing.T) {
	all := upTo(api.MaxReplicas)
	for who := range all {
		less := but(api.MaxReplicas, who)
		if !conf.Next(all, less) || !conf.Next(less, all) || conf.Next(less, less) {
			t.Errorf("%v", less)
		}
		for other := range all {
			if conf.Next(less, but(api.MaxReplicas, other)) {
				t.Errorf("Next of one without %d and one without %d", who, other)
			}
			if got := conf.Next([]int{who}, conf.With([]int{who}, other)); got != (who != other) {
				t.Errorf("Next of %d, with %d: %t", who, other, got)
			}
		}
	}
}

// Promise 13.1: no list that may not be follows one, or is followed by one.
func TestNextOfListsThatMayNotBe(t *testing.T) {
	for _, l := range wrong() {
		others := append(wrong(), append(deep(l), 3), append(deep(l), 16), append([]int{0}, l...))
		if len(l) > 0 {
			others = append(others, l[1:], l[:len(l)-1])
		}
		for mask := range 1 << len(numbers) {
			others = append(others, of(mask))
		}
		for _, k := range others {
			if conf.Next(l, k) || conf.Next(k, l) {
				t.Errorf("%v and %v: %t, %t", l, k, conf.Next(l, k), conf.Next(k, l))
			}
		}
	}
}

// Rule R2: both lists are left as they were. Rule R4: asked again, the same is answered.
func TestNextLeavesWhatIsHandedIn(t *testing.T) {
	lists := append(wrong(), []int{0, 3}, []int{0, 3, 5}, upTo(15), upTo(16))
	for _, l := range lists {
		for _, k := range lists {
			a, allA := roomy(l)
			b, allB := roomy(k)
			wasA, wasB := deep(allA), deep(allB)
			if conf.Next(a, b) != conf.Next(a, b) || conf.Next(a, a) {
				t.Errorf("Next(%v, %v)", l, k)
			}
			if !slices.Equal(allA, wasA) || !slices.Equal(allB, wasB) {
				t.Fatalf("%v and %v, were %v and %v", allA, allB, wasA, wasB)
			}
		}
	}
}

// Promise 13.2: if one list may follow another one, any more than half of the one and any more than half of the other have one in common: of all lists of six.
func TestHalvesMeet(t *testing.T) {
	const lists = 1 << 6
	var most [lists][]int // of each list the parts of it that are more than half
	for l := range lists {
		for part := range lists {
			if part&l == part && conf.Most(of(l), set(part)) {
				most[l] = append(most[l], part)
			}
		}
	}
	pairs, halves := 0, 0
	for a := range lists {
		for b := range lists {
			if !conf.Next(of(a), of(b)) {
				continue
			}
			pairs++
			for _, one := range most[a] {
				for _, other := range most[b] {
					halves++
					if one&other == 0 {
						t.Fatalf("%v may follow %v: %v and %v", of(b), of(a), of(other), of(one))
					}
				}
			}
		}
	}
	if pairs != 2*(6*32-6) || halves == 0 { // each of 192 steps between neighbours, both ways, but those to and from none
		t.Errorf("%d pairs of lists, %d of halves", pairs, halves)
	}
}

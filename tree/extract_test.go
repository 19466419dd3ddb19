package tree_test

import (
	"math"
	"slices"
	"strings"
	"testing"

	"muniment/api"
	"muniment/tree"
)

// none holds that nothing is extracted, and nothing else is told.
func none(t *testing.T, why, a, b string, i, n int, p, q []string) {
	t.Helper()
	if w, is := tree.Extract(a, b, i, n, p, q); is || w != (api.Witness{}) {
		t.Errorf("%s: %.80q, %t", why, w, is)
	}
}

// Promise 6.2: two things that are alike show nothing, though both proofs are right.
func TestExtractOfAlikeThings(t *testing.T) {
	for n := 1; n < 12; n++ {
		l := things(n)
		for i, s := range l {
			p := proof(t, l, i)
			none(t, "alike", s, s, i, n, p, p)
			none(t, "alike", s, s, i, n, p, slices.Clone(p))
		}
	}
	none(t, "empty things", "", "", 0, 1, nil, nil)
	none(t, "empty things", "", "", 0, 1, nil, []string{})
}

// Promise 6.2: proofs that do not lead to the same root show nothing.
func TestExtractOfUnlikeRoots(t *testing.T) {
	for n := 1; n < 12; n++ {
		l, m := things(n), things(n)
		for i := range l {
			m[i] = "another"
			p, q := proof(t, l, i), proof(t, m, i)
			none(t, "a proof of each", l[i], m[i], i, n, p, q)
			none(t, "one proof", l[i], m[i], i, n, p, p)
			none(t, "one proof", m[i], l[i], i, n, q, p)
			none(t, "an empty thing", l[i], "", i, n, p, p)
			m[i] = l[i]
		}
	}
}

// Promise 6.2: where one of two is no proof of that place, or both, nothing is told.
func TestExtractOfWhatIsNoProof(t *testing.T) {
	l := things(6)
	for i, s := range l {
		p := proof(t, l, i)
		for _, q := range [][]string{nil, {}, p[1:], p[:len(p)-1], append(slices.Clone(p), p[0]), slices.Repeat([]string{""}, len(p))} {
			for _, other := range []string{s, "x", ""} {
				none(t, "the second is none", s, other, i, 6, p, q)
				none(t, "the first is none", other, s, i, 6, q, p)
				none(t, "both are none", s, other, i, 6, q, q)
			}
		}
		for k := range p {
			q := slices.Clone(p)
			q[k] = q[k][:31]
			none(t, "no digest", s, "x", i, 6, p, q)
			none(t, "no digest", "x", s, i, 6, q, p)
			none(t, "no digests", s, "x", i, 6, q, q)
		}
	}
}

// Promise 6.2, rule R1: any place and any length end, and tell nothing.
func TestExtractOfAnyPlace(t *testing.T) {
	numbers := []int{0, 1, 2, -1, 5, 1 << 62, 1<<62 + 1, math.MaxInt, math.MaxInt - 1, math.MinInt}
	for count := range 65 {
		p := slices.Repeat([]string{strings.Repeat("d", 32)}, count)
		for _, n := range numbers {
			for _, i := range append(numbers, n-1) {
				none(t, "unlike things", "a", "b", i, n, p, p)
				none(t, "alike things", "a", "a", i, n, p, p)
				none(t, "another proof", "a", "b", i, n, p, nil)
			}
		}
	}
}

// Rule R2: Extract changes no proof.
func TestExtractChangesNothing(t *testing.T) {
	l := things(7)
	p, q := proof(t, l, 3), proof(t, l, 5)
	wasP, wasQ := slices.Clone(p), slices.Clone(q)
	none(t, "unlike roots", l[3], "x", 3, 7, p, q)
	if !slices.Equal(p, wasP) || !slices.Equal(q, wasQ) {
		t.Error("a proof is changed")
	}
}

package conf_test

import (
	"math"
	"math/bits"

	"muniment/api"
)

// numbers is eight of those that may take part, with both ends among them.
var numbers = [8]int{0, 1, 2, 5, 7, 8, 14, 15}

// of is the list of the numbers whose bits are set, rising.
func of(mask int) []int {
	var out []int
	for i, who := range numbers {
		if mask>>i&1 == 1 {
			out = append(out, who)
		}
	}
	return out
}

// set is a map that has just the numbers whose bits are set.
func set(mask int) map[int]bool {
	out := map[int]bool{}
	for _, who := range of(mask) {
		out[who] = true
	}
	return out
}

// many is how many bits are set.
func many(mask int) int { return bits.OnesCount(uint(mask)) }

// upTo is the numbers below one, rising.
func upTo(n int) []int {
	var out []int
	for who := range n {
		out = append(out, who)
	}
	return out
}

// but is the numbers below one without one of them, rising.
func but(n, gone int) []int {
	var out []int
	for who := range n {
		if who != gone {
			out = append(out, who)
		}
	}
	return out
}

// deep is a list of its own, made by hand, without room behind it.
func deep(l []int) []int {
	out := make([]int, len(l))
	for i, who := range l {
		out[i] = who
	}
	return out
}

// roomy is a list in the midst of another one, and that other one: what is written ahead of it or behind it is seen there.
func roomy(l []int) ([]int, []int) {
	all := make([]int, 0, len(l)+4)
	all = append(all, -100)
	all = append(all, l...)
	all = append(all, -101, -102, -103)
	return all[1 : 1+len(l)], all
}

// rising is lists that rise, with numbers of all kinds: what Has, With and Without are asked of.
func rising() [][]int {
	out := [][]int{nil, {}, {-1}, {16}, {-3, 0, 4}, {math.MinInt, -1, 0, math.MaxInt}, {math.MaxInt}, {math.MinInt}, upTo(16), upTo(17), upTo(300)}
	for mask := range 1 << len(numbers) {
		out = append(out, of(mask))
	}
	for who := range api.MaxReplicas {
		out = append(out, []int{who}, but(16, who))
	}
	return out
}

// whoever is numbers that may take part, and ones that may not.
func whoever() []int {
	return append(upTo(18), -1, -2, -3, -4, 255, 256, 257, 299, 300, math.MinInt, math.MinInt+1, math.MaxInt-1, math.MaxInt)
}

// wrong is lists that may not be who takes part, each for one reason alone, where that can be.
func wrong() [][]int {
	out := [][]int{
		nil, {}, upTo(0),
		{-1}, {-1, 0}, {0, -1}, {-1, 0, 1}, {math.MinInt}, {math.MinInt, 0, 1},
		{16}, {0, 16}, {0, 1, 16}, {17}, {0, 256}, {0, 257}, {256, 257}, {math.MaxInt}, {0, math.MaxInt}, {0, 1 << 32},
		{0, 0}, {15, 15}, {0, 0, 1}, {0, 1, 1}, {0, 0, 0}, {0, 1, 0}, {0, 1, 2, 2},
		{1, 0}, {2, 1}, {1, 0, 2}, {0, 2, 1}, {2, 1, 0}, {15, 14},
		upTo(17), upTo(18), upTo(300), append(upTo(16), 15), append(upTo(16), 0), append([]int{0}, upTo(16)...),
	}
	for at := range api.MaxReplicas {
		low, high := upTo(16), upTo(16)
		low[at], high[at] = -1, 16
		out = append(out, low, high)
		if at > 0 {
			twice := upTo(16)
			twice[at] = at - 1
			out = append(out, twice)
		}
	}
	return out
}

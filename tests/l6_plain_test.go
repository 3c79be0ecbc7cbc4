package tests

import (
	"math/rand/v2"
	"slices"

	"loop.example/g00361/impl"
)

// What chapter 6 says, written once more in the plainest way: members stand in
// lists, which are looked through one by one.

func plainVotesGood(v impl.Votes) bool {
	for _, w := range v.Weights {
		if w < 0 || w > 9 {
			return false
		}
	}
	return len(v.Weights) >= 1 && len(v.Weights) <= 7 && v.Need >= 1 && v.Need <= 100
}

// plainRising tells whether a list rises and has only members below a number.
func plainRising(l []int, below int) bool {
	for i, m := range l {
		if m < 0 || m >= below || i > 0 && m <= l[i-1] {
			return false
		}
	}
	return true
}

func plainGroupsGood(l [][]int, below int) bool {
	for _, g := range l {
		if len(g) == 0 || !plainRising(g, below) {
			return false
		}
	}
	return len(l) <= 40
}

// allLists are all rising lists of the first so many members, the one without
// any at first, as numbers with the bits of their members rise: each member
// doubles those that there are.
func allLists(members int) [][]int {
	all := [][]int{nil}
	for m := range members {
		for _, l := range all {
			all = append(all, append(slices.Clone(l), m))
		}
	}
	return all
}

// lessOne is a list without what stands at a place.
func lessOne(l []int, at int) []int {
	return slices.Delete(slices.Clone(l), at, at+1)
}

// plainLeast are the lists for which it holds, and without one of their own not.
func plainLeast(members int, holds func(l []int) bool) [][]int {
	return slices.DeleteFunc(allLists(members), func(l []int) bool {
		for i := range l {
			if holds(lessOne(l, i)) {
				return true
			}
		}
		return !holds(l)
	})
}

func haveCommon(a, b []int) bool {
	return slices.ContainsFunc(a, func(m int) bool { return slices.Contains(b, m) })
}

func isPartOf(a, b []int) bool {
	return !slices.ContainsFunc(a, func(m int) bool { return !slices.Contains(b, m) })
}

func plainWeight(v impl.Votes, some []int) int {
	sum := 0
	for _, m := range some {
		sum += v.Weights[m]
	}
	return sum
}

func plainQuorum(v impl.Votes, some []int) (bool, bool) {
	if !plainVotesGood(v) || !plainRising(some, len(v.Weights)) {
		return false, false
	}
	return plainWeight(v, some) >= v.Need, true
}

func plainLeastQuorums(v impl.Votes) ([][]int, bool) {
	if !plainVotesGood(v) {
		return nil, false
	}
	return plainLeast(len(v.Weights), func(l []int) bool { return plainWeight(v, l) >= v.Need }), true
}

func plainReadWrite(v impl.Votes, read, write int) (bool, bool) {
	if !plainVotesGood(v) || read < 1 || read > 100 || write < 1 || write > 100 {
		return false, false
	}
	all := plainWeight(v, steps(len(v.Weights), 0, 1))
	return read+write > all && write+write > all, true
}

func plainAllMeet(l [][]int) (bool, bool) {
	if !plainGroupsGood(l, 7) {
		return false, false
	}
	for i, a := range l {
		for _, b := range l[:i] {
			if !haveCommon(a, b) {
				return false, true
			}
		}
	}
	return true, true
}

func plainCoterie(l [][]int) (bool, bool) {
	if meet, ok := plainAllMeet(l); !meet {
		return false, ok
	}
	for i, a := range l {
		for k, b := range l {
			if i != k && isPartOf(a, b) {
				return false, true
			}
		}
	}
	return true, true
}

// plainOver tells whether each of b has all of some one of a.
func plainOver(a, b [][]int) bool {
	for _, g := range b {
		if !slices.ContainsFunc(a, func(x []int) bool { return isPartOf(x, g) }) {
			return false
		}
	}
	return true
}

func plainDominates(a, b [][]int) (bool, bool) {
	first, _ := plainCoterie(a)
	second, _ := plainCoterie(b)
	if !first || !second {
		return false, false
	}
	return plainOver(a, b) && !plainOver(b, a), true
}

func plainSurvives(l [][]int, failed []int) (bool, bool) {
	if !plainGroupsGood(l, 7) || !plainRising(failed, 7) {
		return false, false
	}
	return slices.ContainsFunc(l, func(g []int) bool { return !haveCommon(g, failed) }), true
}

// meetsAll tells whether a list has a member of each group.
func meetsAll(l []int, groups [][]int) bool {
	return !slices.ContainsFunc(groups, func(g []int) bool { return !haveCommon(l, g) })
}

func plainBlocks(members int, groups [][]int) ([][]int, bool) {
	if members < 1 || members > 7 || !plainGroupsGood(groups, members) {
		return nil, false
	}
	out := plainLeast(members, func(l []int) bool { return meetsAll(l, groups) })
	if len(out) > 40 {
		return nil, false
	}
	return out, true
}

func plainGrid(rows, columns int) ([][]int, bool) {
	if rows < 1 || rows > 3 || columns < 1 || columns > 3 || rows*columns > 7 {
		return nil, false
	}
	var out [][]int
	for q := range rows * columns {
		var g []int
		for m := range rows * columns {
			if m/columns == q/columns || m%columns == q%columns {
				g = append(g, m)
			}
		}
		out = append(out, g)
	}
	return out, true
}

// sameLists holds the lists of two lists against each other, in their order.
func sameLists(a, b [][]int) bool {
	return slices.EqualFunc(a, b, slices.Equal[[]int])
}

func copyOfLists(l [][]int) [][]int {
	var out [][]int
	for _, g := range l {
		out = append(out, slices.Clone(g))
	}
	return out
}

// votesOf are votes with this Need.
func votesOf(need int, weights ...int) impl.Votes {
	return impl.Votes{Weights: weights, Need: need}
}

// listsOf are all rising lists of so many of the first members.
func listsOf(many, members int) [][]int {
	return slices.DeleteFunc(allLists(members), func(l []int) bool { return len(l) != many })
}

// choice are those of the lists whose bits a number has.
func choice(l [][]int, bits int) [][]int {
	var out [][]int
	for i, g := range l {
		if bits>>i&1 == 1 {
			out = append(out, g)
		}
	}
	return out
}

// allGroups are all choices of groups of the first so many members.
func allGroups(members int) [][][]int {
	one := allLists(members)[1:]
	var out [][][]int
	for bits := range 1 << len(one) {
		out = append(out, choice(one, bits))
	}
	return out
}

// allCoteries are those of them that are coteries.
func allCoteries(members int) [][][]int {
	return slices.DeleteFunc(allGroups(members), func(l [][]int) bool {
		is, _ := plainCoterie(l)
		return !is
	})
}

func randomVotes(r *rand.Rand) impl.Votes {
	v := impl.Votes{Weights: make([]int, 1+r.IntN(7))}
	all := 0
	for i := range v.Weights {
		v.Weights[i] = r.IntN(10) * r.IntN(2)
		all += v.Weights[i]
	}
	v.Need = 1 + r.IntN(all+2)
	return v
}

// randomGroups are at most so many groups of the first members, in any order,
// small ones more often.
func randomGroups(r *rand.Rand, members, most int) [][]int {
	all := allLists(members)[1:]
	var out [][]int
	for range r.IntN(most + 1) {
		g := all[r.IntN(len(all))]
		if x := all[r.IntN(len(all))]; len(x) < len(g) {
			g = x
		}
		out = append(out, slices.Clone(g))
	}
	return out
}

// randomCoterie is one of which no more groups were at hand.
func randomCoterie(r *rand.Rand, members int) [][]int {
	var out [][]int
	for _, g := range randomGroups(r, members, 40) {
		if is, _ := plainCoterie(append(copyOfLists(out), g)); is {
			out = append(out, g)
		}
	}
	return out
}

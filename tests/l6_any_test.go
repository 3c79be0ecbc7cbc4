package tests

import (
	"math"
	"slices"
	"testing"

	"loop.example/g00361/impl"
)

// Promise 19 for chapter 6: answers at any arguments, nothing written into an
// argument, no memory shared.

// oddLists are lists of any numbers, some of them rising members.
func oddLists() [][]int {
	l := [][]int{nil, {}, make([]int, 1<<16), steps(1<<16, 0, 1), steps(8, 0, 1), steps(7, 0, 1)}
	for _, n := range append(oddNumbers(), 2, 6, 7, 8, 9, 10, 31, 32, 63, 64, 65, 100, 101) {
		l = append(l, []int{n}, []int{n, n}, []int{0, n}, []int{n, 0}, []int{0, n, 6}, []int{0, 1, 2, 3, 4, 5, n}, []int{n, 1, 2, 3, 4, 5, 6})
	}
	return l
}

func TestAnyVotesAreAnswered(t *testing.T) {
	few := [][]int{nil, {0}, {0, 1}, {6}, {1 << 15}}
	numbers := append(oddNumbers(), 63, 64, 100, 101)
	for _, weights := range oddLists() {
		for _, need := range numbers {
			wantVotes(t, "odd", impl.Votes{Weights: weights, Need: need}, few, []int{1, 100})
		}
		wantVotes(t, "odd", impl.Votes{Weights: weights, Need: 3}, few, numbers)
	}
}

func TestAnyMembersAreAnswered(t *testing.T) {
	lists := oddLists()
	for why, v := range someVotes() {
		wantVotes(t, why, v, lists, nil)
	}
	for why, v := range badVotes() {
		wantVotes(t, why, v, lists, nil)
	}
}

// oddGroups are lists of any lists, some of them groups.
func oddGroups() [][][]int {
	l := [][][]int{nil, {}, make([][]int, 1<<16), slices.Repeat([][]int{{0}}, 1<<16), allLists(7), allLists(8)}
	for _, g := range oddLists() {
		l = append(l, [][]int{g}, [][]int{g, g}, [][]int{{0, 1}, g}, [][]int{g, {0, 1}}, slices.Repeat([][]int{g}, 40), slices.Repeat([][]int{g}, 41))
	}
	return l
}

func TestAnyGroupsAreAnswered(t *testing.T) {
	failed := [][]int{nil, {0}, {0, 1}, {7}, {1, 0}}
	members := []int{math.MinInt, -1, 0, 1, 2, 6, 7, 8, 64, math.MaxInt}
	all := oddGroups()
	for i, l := range all {
		wantGroups(t, "odd", l, failed, members)
		wantDominates(t, "odd", l, [][]int{{0, 1}, {0, 2}})
		wantDominates(t, "odd", l, l)
		wantDominates(t, "odd", l, all[len(all)-1-i])
	}
}

func TestAnyFailedAndMembersAreAnswered(t *testing.T) {
	lists := oddLists()
	numbers := append(oddNumbers(), 7, 8, 63, 64, 65)
	for why, l := range someGroups() {
		wantGroups(t, why, l, lists, numbers)
	}
	for why, l := range badGroups() {
		wantGroups(t, why, l, lists, numbers)
	}
}

func TestAnyGridIsAnswered(t *testing.T) {
	// Some of these, multiplied, wrap round to few members.
	numbers := append(oddNumbers(), 2, 3, 4, 1<<31, 1<<62, -1<<62)
	for _, rows := range numbers {
		for _, columns := range numbers {
			wantGrid(t, rows, columns)
		}
	}
}

// roomyGroups are the same groups, all lists with room behind their length, in
// which stands what would be taken for more of them, or spoil them. What is told
// beside them are all the lists up to the end of their memory.
func roomyGroups(first [][]int) ([][]int, [][]int) {
	var l, memory [][]int
	for _, g := range first {
		own, all := roomyList(g, 6, -7)
		l = append(l, own)
		memory = append(memory, all)
	}
	l, all := roomyList(l, []int{0}, []int{6, 0})
	return l, append(memory, all[len(l):]...)
}

// groupsSeen are what stands now in the memory of groups made by roomyGroups.
func groupsSeen(l [][]int, memory [][]int) [][]int {
	var out [][]int
	for i, g := range l[:len(memory)] {
		if i < len(l) {
			g = g[:len(memory[i])]
		}
		out = append(out, g)
	}
	return out
}

func TestVotesStayAsTheyAre(t *testing.T) {
	votes := badVotes()
	for why, v := range someVotes() {
		votes[why] = v
	}
	for why, first := range votes {
		weights, memory := roomyList(first.Weights, 9, -7)
		before := slices.Clone(memory)
		v := impl.Votes{Weights: weights, Need: first.Need}
		for _, some := range append(allLists(3), []int{6}, []int{2, 1}, []int{0, 0}) {
			own, all := roomyList(some, 6, -7)
			given := slices.Clone(all)
			wantVotes(t, why, v, [][]int{own}, []int{1, 4, 101})
			if !slices.Equal(all, given) {
				t.Error("written into the members:", why, some)
			}
		}
		if !slices.Equal(memory, before) {
			t.Error("written into the weights:", why)
		}
	}
}

func TestGroupsStayAsTheyAre(t *testing.T) {
	groups := badGroups()
	for why, l := range someGroups() {
		groups[why] = l
	}
	for why, first := range groups {
		l, memory := roomyGroups(first)
		before := copyOfLists(memory)
		if !sameLists(groupsSeen(l, memory), before) {
			t.Fatal("the groups with room are not the same", why)
		}
		for _, some := range append(allLists(3), []int{6}, []int{2, 1}, []int{0, 0}) {
			failed, all := roomyList(some, 6, -7)
			given := slices.Clone(all)
			wantGroups(t, why, l, [][]int{failed}, []int{0, 3, 7})
			if !slices.Equal(all, given) {
				t.Error("written into the failed ones:", why, some)
			}
		}
		for _, other := range groups {
			b, otherMemory := roomyGroups(other)
			otherBefore := copyOfLists(otherMemory)
			wantDominates(t, why, l, b)
			if !sameLists(groupsSeen(b, otherMemory), otherBefore) {
				t.Error("written into the other groups:", why)
			}
		}
		if !sameLists(groupsSeen(l, memory), before) {
			t.Error("written into the groups:", why)
		}
	}
}

// wantOwnLists asks that nothing of the answer is of an argument's memory, nor
// two of its lists of one.
func wantOwnLists(t *testing.T, why string, given [][]int, got [][]int) {
	t.Helper()
	if listsShare(given, got) {
		t.Error(why, "the list is shared")
	}
	for i, g := range got {
		for _, x := range given {
			if listsShare(g, x) {
				t.Error(why, "a list is shared", i)
			}
		}
		for _, x := range got[:i] {
			if listsShare(g, x) {
				t.Error(why, "two lists share", i)
			}
		}
	}
}

// spoilLists writes into all of the lists' memory.
func spoilLists(l [][]int) {
	for _, g := range l[:cap(l)] {
		fill(g)
	}
	l = l[:cap(l)]
	for i := range l {
		l[i] = []int{-9}
	}
}

// What is done to an answer, up to the end of its memory, is not seen in an
// argument, nor in what is answered next.
func TestAnsweredQuorumsShareNoMemory(t *testing.T) {
	for why, v := range someVotes() {
		before := slices.Clone(v.Weights)
		for range 2 {
			l, ok := impl.LeastQuorums(v)
			if !ok {
				t.Fatal(why)
			}
			wantOwnLists(t, why, [][]int{v.Weights}, l)
			spoilLists(l)
			wantVotes(t, why, v, nil, nil)
		}
		if !slices.Equal(v.Weights, before) {
			t.Error("written into the weights:", why)
		}
	}
}

func TestAnsweredBlocksShareNoMemory(t *testing.T) {
	groups := someGroups()
	one := steps(7, 0, 1)
	groups["pieces of one memory"] = [][]int{one[:3], one[2:5], one[4:]}
	for why, first := range groups {
		l, memory := roomyGroups(first)
		before := copyOfLists(memory)
		for range 2 {
			for _, given := range [][][]int{first, l} {
				blocks, ok := impl.BlocksOf(7, given)
				if !ok {
					t.Fatal(why)
				}
				wantOwnLists(t, why, given, blocks)
				spoilLists(blocks)
				wantGroups(t, why, given, nil, []int{7})
			}
		}
		if !sameLists(groupsSeen(l, memory), before) {
			t.Error("written into the groups:", why)
		}
	}
}

func TestAnsweredGridsShareNoMemory(t *testing.T) {
	for rows := 1; rows <= 3; rows++ {
		for columns := 1; columns <= 3; columns++ {
			for range 2 {
				l, _ := impl.GridQuorums(rows, columns)
				other, _ := impl.GridQuorums(rows, columns)
				wantOwnLists(t, "grid", other, l)
				spoilLists(l)
				wantGrid(t, rows, columns)
			}
		}
	}
}

// What is refused hands out nothing, not even an empty list with memory of an
// argument behind it.
func TestRefusedQuorumsHandOutNothing(t *testing.T) {
	for why, v := range badVotes() {
		if l, ok := impl.LeastQuorums(v); ok || len(l) != 0 || listsShare(l, v.Weights) {
			t.Error(why, l, ok)
		}
	}
	for why, first := range badGroups() {
		l, _ := roomyGroups(first)
		blocks, ok := impl.BlocksOf(7, l)
		if ok || len(blocks) != 0 {
			t.Error(why, blocks, ok)
		}
		wantOwnLists(t, why, l, blocks)
	}
	l, _ := roomyGroups(nil)
	blocks, ok := impl.BlocksOf(7, l)
	if !ok || !sameLists(blocks, [][]int{{}}) {
		t.Error("of none", blocks, ok)
	}
	wantOwnLists(t, "of none", l, blocks)
}

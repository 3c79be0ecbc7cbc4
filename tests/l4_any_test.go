package tests

import (
	"slices"
	"testing"

	"loop.example/g00361/impl"
)

// Promise 19 for chapter 4: answers at any arguments, nothing written into an
// argument, no memory shared.

// oddEntries are lists of any numbers, some of them logs.
func oddEntries() [][]int {
	l := [][]int{nil, {}, make([]int, 1<<16), steps(1<<16, 0, 1), steps(101, 0, 1)}
	for _, n := range append(oddNumbers(), 29, 30, 31, 99, 100, 101) {
		l = append(l, []int{n}, []int{n, n}, []int{0, n}, []int{n, 0}, []int{0, n, 100}, slices.Repeat([]int{n}, 30), slices.Repeat([]int{n}, 31))
	}
	return l
}

// oddMarks are any marks, some of them good.
func oddMarks() [][]impl.EpochMark {
	l := [][]impl.EpochMark{nil, {}, make([]impl.EpochMark, 1<<16)}
	for _, n := range append(oddNumbers(), 29, 30, 31, 99, 100, 101) {
		l = append(l, marked(n, 0), marked(0, n), marked(n, n),
			marked(0, 0, n, 1), marked(0, 0, 1, n), marked(n, n, n, n),
			marked(n, 0, 100, 29), marked(0, n, 100, 29))
	}
	return l
}

func TestAnyEntriesAreAnswered(t *testing.T) {
	all := oddEntries()
	for i, l := range all {
		wantEntries(t, "odd", l)
		wantFollowed(t, "odd", l, []int{0, 0, 1})
		wantFollowed(t, "odd", []int{0, 0, 1}, l)
		wantFollowed(t, "odd", l, all[len(all)-1-i])
		wantFollowed(t, "odd", l, l)
	}
}

func TestAnyMarksAreAnswered(t *testing.T) {
	numbers := append(oddNumbers(), 29, 30, 31, 99, 100, 101)
	for _, m := range oddMarks() {
		if len(m) > 100 {
			wantMarks(t, "odd", m, []int{0, 30, 31}, []int{0, 100})
			continue
		}
		wantMarks(t, "odd", m, numbers, numbers)
	}
}

// roomyList is the same list with room behind its length, in which stands what
// would be taken for more of it, or spoil it.
func roomyList[A any](l []A, behind ...A) ([]A, []A) {
	memory := append(append([]A(nil), l...), behind...)
	return memory[:len(l)], memory
}

func TestEntriesStayAsTheyAre(t *testing.T) {
	logs := badEntries()
	for why, l := range someEntries() {
		logs[why] = l
	}
	for why, first := range logs {
		for _, other := range logs {
			a, memory := roomyList(first, 100, -7)
			b, otherMemory := roomyList(other, 100, -7)
			before, otherBefore := slices.Clone(memory), slices.Clone(otherMemory)
			wantEntries(t, why, a)
			wantFollowed(t, why, a, b)
			if !slices.Equal(memory, before) || !slices.Equal(otherMemory, otherBefore) {
				t.Error("written into the entries:", why)
			}
		}
	}
}

func TestMarksStayAsTheyAre(t *testing.T) {
	marks := badMarks()
	for why, m := range someMarks() {
		marks[why] = m
	}
	for why, first := range marks {
		m, memory := roomyList(first, impl.EpochMark{Epoch: 100, Start: 29}, impl.EpochMark{Epoch: -7})
		before := slices.Clone(memory)
		wantMarks(t, why, m, steps(33, -1, 1), []int{-1, 0, 5, 99, 100, 101})
		if !slices.Equal(memory, before) {
			t.Error("written into the marks:", why)
		}
	}
}

// What is done to an answer, up to the end of its memory, is not seen in an
// argument, nor in what is answered next.
func TestAnsweredEpochsShareNoMemory(t *testing.T) {
	for why, first := range someEntries() {
		l, memory := roomyList(first, 100, -7)
		before := slices.Clone(memory)
		m, _ := impl.MarksOf(l)
		for range 2 {
			for at := range 32 {
				cut, _ := impl.CutMarks(m, at)
				if listsShare(cut, m) {
					t.Error(why, "marks are shared", at)
				}
			}
			for _, other := range someEntries() {
				out, _ := impl.FollowBy(l, other)
				if listsShare(out, memory) || listsShare(out, other) {
					t.Error(why, "entries are shared with the leader's")
				}
				fill(out)
				out, _ = impl.FollowBy(other, l)
				if listsShare(out, memory) || listsShare(out, other) {
					t.Error(why, "entries are shared with the follower's")
				}
				fill(out)
			}
			spoilt, _ := impl.MarksOf(l)
			for i := range spoilt {
				spoilt[i] = impl.EpochMark{Epoch: -1}
			}
			wantEntries(t, why, l)
		}
		if !slices.Equal(memory, before) {
			t.Error("written into the entries:", why)
		}
	}
}

// fill writes into all of a list's memory.
func fill(l []int) {
	l = l[:cap(l)]
	for i := range l {
		l[i] = -9
	}
}

// What is refused hands out nothing, not even an empty list with memory of an
// argument behind it.
func TestRefusedEpochsHandOutNothing(t *testing.T) {
	memory := []int{-1, 0, 0}
	marks := marked(-1, 0, 0, 0)
	if l, ok := impl.FollowBy(memory[:1], nil); ok || len(l) != 0 || listsShare(l, memory) {
		t.Error(l, ok)
	}
	if l, ok := impl.FollowBy(nil, memory[:1]); ok || len(l) != 0 || listsShare(l, memory) {
		t.Error(l, ok)
	}
	if l, ok := impl.FollowBy(memory[:0], memory[:0]); !ok || len(l) != 0 || listsShare(l, memory) {
		t.Error("of none", l, ok)
	}
	if m, ok := impl.CutMarks(marks, 0); ok || len(m) != 0 || listsShare(m, marks) {
		t.Error(m, ok)
	}
	if m, ok := impl.CutMarks(marks[:0], 0); !ok || len(m) != 0 || listsShare(m, marks) {
		t.Error("of none", m, ok)
	}
}

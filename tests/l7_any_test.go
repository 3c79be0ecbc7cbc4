package tests

import (
	"slices"
	"testing"

	"loop.example/g00361/impl"
)

// Promise 19 for chapter 7: answers at any arguments, nothing written into an
// argument, no memory shared.

// oddEvents are lists of any events, some of them good.
func oddEvents() [][]impl.Event {
	l := [][]impl.Event{nil, {}, make([]impl.Event, 24), make([]impl.Event, 1<<16), slices.Repeat(events(inside(0)), 1<<16), manySends(25), manySends(1 << 16)}
	for _, n := range append(oddNumbers(), 2, 3, 4, 5, 6, 23, 24, 25, 63, 64) {
		odd := events(inside(n), impl.Event{Kind: n}, impl.Event{Kind: n, Msg: n}, impl.Event{Kind: 1, Msg: n},
			sends(n, 1), sends(0, n), sends(n, n), takes(n, 1), takes(0, n), takes(n, n), takes(1, n))
		for _, e := range odd {
			l = append(l, events(e), events(e, e), events(sends(0, 1), e), events(e, takes(1, 1)), events(e, takes(1, n)), slices.Repeat(events(e), 24))
		}
	}
	return l
}

func TestAnyEventsAreAnswered(t *testing.T) {
	for _, l := range oddEvents() {
		for _, procs := range []int{0, 1, 2, 5, 6} {
			wantEvents(t, "odd", procs, l, []int{-1, 0, 1, 23, 24})
		}
	}
}

func TestAnyProcessesAndPlacesAreAnswered(t *testing.T) {
	numbers := append(oddNumbers(), 2, 3, 4, 5, 6, 8, 9, 23, 24, 25, 63, 64, 65)
	all := badEvents()
	for why, l := range someEvents() {
		all[why] = l
	}
	for why, l := range all {
		wantEvents(t, why, 3, l, numbers)
		for _, procs := range numbers {
			wantEvents(t, why, procs, l, []int{-1, 0, len(l) - 1, len(l)})
		}
	}
}

func TestAnyClocksAreAnswered(t *testing.T) {
	all := oddLists()
	for i, a := range all {
		wantPair(t, "odd", a, a)
		wantPair(t, "odd", a, slices.Clone(a))
		wantPair(t, "odd", a, []int{1000, 0})
		wantPair(t, "odd", a, all[len(all)-1-i])
	}
}

// What lies behind a list's length, though it would make the events others, or
// spoil them, is not read and not written.
func TestEventsStayAsTheyAre(t *testing.T) {
	all := badEvents()
	for why, l := range someEvents() {
		all[why] = l
	}
	for why, first := range all {
		l, memory := roomyList(first, takes(1, 1), sends(0, 1), impl.Event{Proc: -7})
		before := slices.Clone(memory)
		for _, procs := range []int{0, 2, 3, 5} {
			wantEvents(t, why, procs, l, steps(27, -1, 1))
		}
		if !slices.Equal(memory, before) {
			t.Error("written into the events:", why)
		}
	}
}

func TestClocksStayAsTheyAre(t *testing.T) {
	some := [][]int{nil, {}, {0}, {1000}, {1, 2}, {2, 1}, {0, 1, 2, 3, 4}, {4, 3, 2, 1, 0}, {-1, 0}, {0, 1001}, make([]int, 6)}
	for _, first := range some {
		for _, second := range some {
			a, memory := roomyList(first, 5, -7)
			b, other := roomyList(second, 6, -7)
			before, otherBefore := slices.Clone(memory), slices.Clone(other)
			wantPair(t, "room", a, b)
			wantPair(t, "room", a, a)
			if !slices.Equal(memory, before) || !slices.Equal(other, otherBefore) {
				t.Error("written into the clocks:", first, second)
			}
		}
	}
}

// What is done to an answer, up to the end of its memory, is not seen in an
// argument, in another list of it, nor in what is answered next.
func TestAnsweredClocksShareNoMemory(t *testing.T) {
	for why, first := range someEvents() {
		l, memory := roomyList(first, sends(0, 20), takes(1, 20))
		before := slices.Clone(memory)
		for range 2 {
			scalars, _ := impl.ScalarClocks(3, l)
			vectors, _ := impl.VectorClocks(3, l)
			wantOwnLists(t, why, [][]int{scalars}, vectors)
			if listsShare(scalars, memory) || listsShare(vectors, memory) {
				t.Error(why, "a list is shared with the events")
			}
			for _, v := range vectors {
				if listsShare(v, memory) {
					t.Error(why, "a vector is shared with the events")
				}
			}
			fill(scalars)
			spoilLists(vectors)
			for at := range l {
				past, _ := impl.CausalPast(3, l, at)
				if listsShare(past, memory) {
					t.Error(why, "a past is shared with the events", at)
				}
				fill(past)
			}
			wantEvents(t, why, 3, l, steps(len(l)+2, -1, 1))
		}
		if !slices.Equal(memory, before) {
			t.Error("written into the events:", why)
		}
	}
}

// Each vector may be written on without another one changing.
func TestVectorsMayBeWrittenInto(t *testing.T) {
	for why, l := range someEvents() {
		want, _ := impl.VectorClocks(3, l)
		for at := range want {
			got, _ := impl.VectorClocks(3, l)
			fill(append(got[at], 1))
			fill(got[at])
			for i := range got {
				if i != at && !slices.Equal(got[i], want[i]) {
					t.Error(why, at, i, got[i])
				}
			}
		}
	}
}

func TestJoinedClocksShareNoMemory(t *testing.T) {
	one := []int{0, 1, 2, 3, 4, 5}
	for _, c := range [][2][]int{
		{one[:3], one[:3]},
		{one[:3], one[1:4]},
		{one[1:4], one[:3]},
		{one[:5], {9, 9, 9, 9, 9}},
		{{9, 9, 9, 9, 9}, one[:5]},
		{one[:1], {0}},
		{{0}, one[:1]},
	} {
		a, b := slices.Clone(c[0]), slices.Clone(c[1])
		for range 2 {
			join, ok := impl.JoinClocks(c[0], c[1])
			if !ok || listsShare(join, c[0]) || listsShare(join, c[1]) {
				t.Error(c, join, ok)
			}
			fill(join)
			wantPair(t, "joined", c[0], c[1])
		}
		if !slices.Equal(c[0], a) || !slices.Equal(c[1], b) {
			t.Error("written into the clocks:", a, b)
		}
	}
}

// What is refused hands out nothing, not even an empty list with memory of an
// argument behind it.
func TestRefusedClocksHandOutNothing(t *testing.T) {
	for why, first := range badEvents() {
		l, memory := roomyList(first, inside(0))
		if s, ok := impl.ScalarClocks(3, l); ok || len(s) != 0 || listsShare(s, memory) {
			t.Error(why, s, ok)
		}
		if v, ok := impl.VectorClocks(3, l); ok || len(v) != 0 || listsShare(v, memory) {
			t.Error(why, v, ok)
		}
		if p, ok := impl.CausalPast(3, l, 0); ok || len(p) != 0 || listsShare(p, memory) {
			t.Error(why, p, ok)
		}
	}
	memory := []int{0, 1001, 0, 0, 0, 0, 0}
	for _, c := range [][2][]int{{memory[:0], memory[:0]}, {memory[:1], memory[1:2]}, {memory[:1], memory[2:4]}, {memory[:6], memory[1:]}} {
		for range 2 {
			if join, ok := impl.JoinClocks(c[0], c[1]); ok || len(join) != 0 || listsShare(join, memory) {
				t.Error(c, join, ok)
			}
			c[0], c[1] = c[1], c[0]
		}
	}
}

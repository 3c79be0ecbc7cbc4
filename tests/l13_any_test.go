package tests

import (
	"slices"
	"testing"

	"loop.example/g00361/impl"
)

// Promise 19 for chapter 13: answers at any arguments, nothing written into an
// argument, no memory shared.

// oddPlaces are lists of any numbers, some of them good places.
func oddPlaces() [][]int {
	l := append(oddLists(), slices.Repeat([]int{-1}, 1<<16), slices.Repeat([]int{-1}, 17))
	for _, n := range append(oddNumbers(), -2, 2, 3, 4, 5, 6, 7) {
		for _, many := range []int{1, 2, 15, 16, 17} {
			l = append(l, slices.Repeat([]int{n}, many))
			l = append(l, append(slices.Repeat([]int{n}, many-1), 0))
			l = append(l, append(slices.Repeat([]int{-1}, many-1), n))
		}
	}
	return l
}

// oddHomes are numbers of homes, some of them good.
func oddHomes() []int {
	return append(oddNumbers(), -2, 2, 3, 4, 5, 6, 7, 8, 63, 64)
}

func TestAnyPlacesAreAnswered(t *testing.T) {
	for _, at := range oddPlaces() {
		for _, homes := range oddHomes() {
			wantPlaces(t, "odd", homes, at, []int{-1, 0, 5, 6})
		}
	}
}

func TestAnyHomeThatGoesIsAnswered(t *testing.T) {
	all := badPlaces()
	for why, p := range somePlaces() {
		all[why] = p
	}
	for why, p := range all {
		for _, homes := range append(oddHomes(), p.homes) {
			wantPlaces(t, why, homes, p.at, oddHomes())
		}
	}
}

func TestAnyTwoListsAreHeldAgainstEachOther(t *testing.T) {
	all := oddPlaces()
	for i, a := range all {
		wantMoves(t, "odd", a, a)
		wantMoves(t, "odd", a, slices.Clone(a))
		wantMoves(t, "odd", a, make([]int, len(a)))
		wantMoves(t, "odd", a, all[len(all)-1-i])
		if len(a) < 20 {
			for _, b := range all {
				wantMoves(t, "odd", a, b)
			}
		}
	}
}

func TestAnyRacksAreAnswered(t *testing.T) {
	lists := [][][]int{nil, {nil}, {{0}}, {{0, 1}}, {{5}, {0, 1}}, {{-1}}}
	for _, racks := range oddPlaces() {
		wantRacks(t, "odd", racks, oddHomes(), lists)
	}
}

func TestAnyListsOfHomesAreAnswered(t *testing.T) {
	all := oddGroups()
	for _, racks := range [][]int{nil, {0}, {3, 3}, {0, 1, 2}, {0, 0, 1, 1, 2, 3}, make([]int, 6), make([]int, 7)} {
		wantRacks(t, "odd", racks, nil, all)
	}
}

// What lies behind a list's length, though it would make the places others, or spoil
// them, is not read and not written.
func TestPlacesStayAsTheyAre(t *testing.T) {
	all := badPlaces()
	for why, p := range somePlaces() {
		all[why] = p
	}
	for why, p := range all {
		for _, other := range all {
			at, memory := roomyList(p.at, 0, -1, -7)
			b, otherMemory := roomyList(other.at, 0, -1, -7)
			before, otherBefore := slices.Clone(memory), slices.Clone(otherMemory)
			wantPlaces(t, why, p.homes, at, steps(9, -1, 1))
			wantMoves(t, why, at, b)
			wantMoves(t, why, at, at)
			if !slices.Equal(memory, before) || !slices.Equal(otherMemory, otherBefore) {
				t.Error("written into the places:", why)
			}
		}
	}
}

// someRacks are good ones.
func someRacks() [][]int {
	return [][]int{{0}, {3}, {0, 1}, {1, 1}, {2, 1, 0}, {0, 0, 1}, {0, 1, 2, 3}, {0, 0, 1, 1, 2, 2}, {3, 3, 3, 3, 3, 3}, {0, 1, 2, 3, 0, 1}}
}

func TestRacksStayAsTheyAre(t *testing.T) {
	groups := badGroups()
	for why, l := range someGroups() {
		groups[why] = l
	}
	for _, first := range append(someRacks(), nil, []int{-1}, []int{0, 4}, make([]int, 7)) {
		racks, memory := roomyList(first, 3, -7)
		before := slices.Clone(memory)
		for why, group := range groups {
			l, groupMemory := roomyGroups(group)
			groupBefore := copyOfLists(groupMemory)
			wantRacks(t, why, racks, steps(6, -1, 1), [][][]int{l})
			if !sameLists(groupsSeen(l, groupMemory), groupBefore) {
				t.Error("written into the lists:", first, why)
			}
		}
		if !slices.Equal(memory, before) {
			t.Error("written into the racks:", first)
		}
	}
}

// What is done to an answer, up to the end of its memory, is not seen in an argument,
// nor in what is answered next.
func TestAnsweredPlacesShareNoMemory(t *testing.T) {
	for why, p := range somePlaces() {
		at, memory := roomyList(p.at, 0, -7)
		before := slices.Clone(memory)
		for range 2 {
			loads, _ := impl.LoadsOf(p.homes, at)
			spread, _ := impl.SpreadEven(p.homes, at)
			next, _ := impl.SpreadEven(p.homes, at)
			dropped, _ := impl.DropHome(p.homes, at, 0)
			wantOwnLists(t, why, [][]int{memory}, [][]int{loads, spread, next, dropped})
			for _, l := range [][]int{loads, spread, next, dropped} {
				fill(l)
			}
			wantPlaces(t, why, p.homes, at, steps(8, -1, 1))
		}
		if !slices.Equal(memory, before) {
			t.Error("written into the places:", why)
		}
	}
}

func TestAnsweredRacksShareNoMemory(t *testing.T) {
	for _, first := range someRacks() {
		racks, memory := roomyList(first, 3, -7)
		before := slices.Clone(memory)
		for copies := 1; copies <= min(3, len(racks)); copies++ {
			for range 2 {
				l, ok := impl.RacksOf(racks, copies)
				other, _ := impl.RacksOf(racks, copies)
				if !ok {
					t.Fatal(racks, copies)
				}
				wantOwnLists(t, "racks", [][]int{memory}, l)
				wantOwnLists(t, "racks", other, l)
				spoilLists(l)
				wantRacks(t, "racks", racks, []int{1, 2, 3}, [][][]int{other})
			}
		}
		if !slices.Equal(memory, before) {
			t.Error("written into the racks:", first)
		}
	}
}

// A list of an answer may be written into, and be made longer, without another one's
// changing.
func TestListsOfRacksMayBeWrittenInto(t *testing.T) {
	for _, racks := range someRacks() {
		l, _ := impl.RacksOf(racks, min(3, len(racks)))
		for i := range l {
			others := copyOfLists(append(slices.Clone(l[:i]), l[i+1:]...))
			l[i] = append(l[i], -8)
			fill(l[i])
			if !sameLists(others, append(slices.Clone(l[:i]), l[i+1:]...)) {
				t.Error(racks, i, l)
			}
		}
	}
}

// What is refused hands out nothing, not even an empty list with memory of an argument
// behind it.
func TestRefusedPlacesHandOutNothing(t *testing.T) {
	all := badPlaces()
	all["no item"] = placesOf(3)
	for why, p := range all {
		at, memory := roomyList(p.at, 0, -1)
		loads, _ := impl.LoadsOf(p.homes, at)
		spread, ok := impl.SpreadEven(p.homes, at)
		dropped, also := impl.DropHome(p.homes, at, 0)
		if len(spread) != 0 || len(dropped) != 0 || ok != also || ok != (why == "no item") {
			t.Error(why, spread, dropped, ok, also)
		}
		wantOwnLists(t, why, [][]int{memory}, [][]int{loads, spread, dropped})
	}
	racks, memory := roomyList(nil, 0, 1)
	l, ok := impl.RacksOf(racks, 1)
	if ok || len(l) != 0 || listsShare(l, memory) {
		t.Error(l, ok)
	}
}

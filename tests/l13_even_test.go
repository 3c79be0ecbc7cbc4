package tests

import (
	"slices"
	"testing"

	"loop.example/g00361/impl"
)

// Promise 13: what is spread is even, and no even places need fewer moves.

// differs counts where two lists of one length do.
func differs(a, b []int) int {
	many := 0
	for i := range a {
		if a[i] != b[i] {
			many++
		}
	}
	return many
}

// fewestTo is how many items are elsewhere at least in one of these places.
func fewestTo(at []int, all [][]int) int {
	least := len(at) + 1
	for _, b := range all {
		least = min(least, differs(at, b))
	}
	return least
}

// wantSpread asks of what is spread that it is even and that it tells FewestMoves.
func wantSpread(t *testing.T, homes int, at []int) ([]int, int) {
	t.Helper()
	spread, ok := impl.SpreadEven(homes, at)
	if !ok || len(spread) != len(at) || !evenOver(steps(homes, 0, 1), spread) {
		t.Fatal(homes, at, spread, ok)
	}
	if even, ok := impl.IsEven(homes, spread); !even || !ok {
		t.Error("not even", homes, at, spread)
	}
	fewest, ok := impl.FewestMoves(homes, at)
	if moves, told := impl.MovesTo(at, spread); !ok || !told || moves != fewest || moves != differs(at, spread) {
		t.Error("moves", homes, at, spread, fewest, moves)
	}
	if again, ok := impl.SpreadEven(homes, spread); !ok || !slices.Equal(again, spread) {
		t.Error("spread once more", homes, at, spread, again)
	}
	if none, ok := impl.FewestMoves(homes, spread); none != 0 || !ok {
		t.Error("moves where it is even", homes, spread, none)
	}
	return spread, fewest
}

func TestNoEvenPlacesNeedFewerMoves(t *testing.T) {
	for homes, most := range []int{0, 6, 6, 6, 5, 4, 4} {
		if homes == 0 {
			continue
		}
		for items := range most + 1 {
			even := evenPlaces(steps(homes, 0, 1), items)
			for _, at := range allPlaces(homes, items) {
				_, fewest := wantSpread(t, homes, at)
				if fewest != fewestTo(at, even) {
					t.Error(homes, at, fewest, fewestTo(at, even))
				}
			}
		}
	}
}

// wantDropped asks of the places without a home that nothing is there, and that the
// items are even over the others.
func wantDropped(t *testing.T, homes int, at []int, gone int) []int {
	t.Helper()
	out, ok := impl.DropHome(homes, at, gone)
	if !ok || len(out) != len(at) || slices.Contains(out, gone) {
		t.Fatal(homes, at, gone, out, ok)
	}
	if !evenOver(lessOne(steps(homes, 0, 1), gone), out) {
		t.Error("not even", homes, at, gone, out)
	}
	return out
}

func TestNoPlacesWithoutAHomeNeedFewerMoves(t *testing.T) {
	for homes, most := range []int{0, 0, 6, 5, 5, 4, 3} {
		for gone := range homes {
			if homes == 1 {
				continue
			}
			for items := range most + 1 {
				even := evenPlaces(lessOne(steps(homes, 0, 1), gone), items)
				for _, at := range allPlaces(homes, items) {
					out := wantDropped(t, homes, at, gone)
					if differs(at, out) != fewestTo(at, even) {
						t.Error(homes, at, gone, out)
					}
				}
			}
		}
	}
}

// Of more homes and items the moves are held against the rooms alone, whoever has one
// more.
func TestManyItemsAreSpreadByFewestMoves(t *testing.T) {
	r := newRandom()
	for range 20000 {
		homes, at := randomPlaces(r)
		_, fewest := wantSpread(t, homes, at)
		if want, _ := plainFewest(homes, at); fewest != want {
			t.Error(homes, at, fewest, want)
		}
		if homes > 1 {
			wantDropped(t, homes, at, r.IntN(homes))
		}
	}
}

func TestAllLoadsOfFullPlaces(t *testing.T) {
	for _, loads := range allClocks(4, 0, 1, 2, 3, 4, 5) {
		var at []int
		for k, many := range append(loads, 0, 3) {
			at = append(at, slices.Repeat([]int{k}, many)...)
		}
		if len(at) > 16 {
			continue
		}
		for _, at := range [][]int{at, append(at, slices.Repeat([]int{-1}, 16-len(at))...)} {
			_, fewest := wantSpread(t, 6, at)
			if want, _ := plainFewest(6, at); fewest != want {
				t.Error(at, fewest, want)
			}
			wantPlaces(t, "full", 6, at, []int{0, 4, 5})
		}
	}
}

// The items that stay at a home are its first ones, and none of them changed with
// another one.
func TestFirstItemsStay(t *testing.T) {
	r := newRandom()
	for range 5000 {
		homes, at := randomPlaces(r)
		spread, _ := wantSpread(t, homes, at)
		for i, k := range at {
			for j := range i {
				if k >= 0 && at[j] == k && spread[i] == k && spread[j] != k {
					t.Error("a later one stayed", homes, at, spread, j, i)
				}
			}
		}
	}
}

// A map is gone through in another order each time: an answer is the same all the same.
func TestPlacesAreAnsweredAlikeEachTime(t *testing.T) {
	for why, p := range somePlaces() {
		spread, _ := impl.SpreadEven(p.homes, p.at)
		loads, _ := impl.LoadsOf(p.homes, p.at)
		gone, _ := impl.DropHome(p.homes, p.at, 0)
		for range 200 {
			if l, _ := impl.SpreadEven(p.homes, p.at); !slices.Equal(l, spread) {
				t.Fatal(why, l, spread)
			}
			if l, _ := impl.LoadsOf(p.homes, p.at); !slices.Equal(l, loads) {
				t.Fatal(why, l, loads)
			}
			if l, _ := impl.DropHome(p.homes, p.at, 0); !slices.Equal(l, gone) {
				t.Fatal(why, l, gone)
			}
		}
	}
}

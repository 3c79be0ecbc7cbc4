package tests

import (
	"math/rand/v2"
	"slices"
)

// What chapter 13 says, written once more in the plainest way: items are looked
// through one by one, and counted anew for each thing that is asked.

func plainPlacesGood(homes int, at []int) bool {
	for _, k := range at {
		if k < -1 || k >= homes {
			return false
		}
	}
	return homes >= 1 && homes <= 6 && len(at) <= 16
}

func itemsAt(at []int, home int) int {
	many := 0
	for _, k := range at {
		if k == home {
			many++
		}
	}
	return many
}

func plainLoads(homes int, at []int) ([]int, bool) {
	if !plainPlacesGood(homes, at) {
		return nil, false
	}
	var l []int
	for k := range homes {
		l = append(l, itemsAt(at, k))
	}
	return l, true
}

// evenOver tells whether each item is at one of these homes, and none of them has two
// more than another one.
func evenOver(homes []int, at []int) bool {
	for _, k := range at {
		if !slices.Contains(homes, k) {
			return false
		}
	}
	for _, a := range homes {
		for _, b := range homes {
			if itemsAt(at, a) >= itemsAt(at, b)+2 {
				return false
			}
		}
	}
	return true
}

func plainEven(homes int, at []int) (bool, bool) {
	if !plainPlacesGood(homes, at) {
		return false, false
	}
	return evenOver(steps(homes, 0, 1), at), true
}

// roomsOver are the rooms of these homes: who has one more is found one after the
// other, the first one with the greatest load of those that do not have it yet.
func roomsOver(homes []int, at []int) map[int]int {
	rooms := map[int]int{}
	for _, k := range homes {
		rooms[k] = len(at) / len(homes)
	}
	var more []int
	for range len(at) % len(homes) {
		best := -1
		for _, k := range homes {
			if !slices.Contains(more, k) && (best == -1 || itemsAt(at, k) > itemsAt(at, best)) {
				best = k
			}
		}
		more = append(more, best)
		rooms[best]++
	}
	return rooms
}

// spreadBy follows the words of SpreadEven over these homes.
func spreadBy(homes []int, at []int) []int {
	rooms := roomsOver(homes, at)
	out := slices.Clone(at)
	for _, k := range homes {
		for i := len(out) - 1; i >= 0; i-- {
			if out[i] == k && itemsAt(out, k) > rooms[k] {
				out[i] = -1
			}
		}
	}
	for i := range out {
		for _, k := range homes {
			if out[i] == -1 && itemsAt(out, k) < rooms[k] {
				out[i] = k
			}
		}
	}
	return out
}

func plainSpread(homes int, at []int) ([]int, bool) {
	if !plainPlacesGood(homes, at) {
		return nil, false
	}
	return spreadBy(steps(homes, 0, 1), at), true
}

func plainDrop(homes int, at []int, gone int) ([]int, bool) {
	if !plainPlacesGood(homes, at) || homes == 1 || gone < 0 || gone >= homes {
		return nil, false
	}
	out := slices.Clone(at)
	for i, k := range out {
		if k == gone {
			out[i] = -1
		}
	}
	return spreadBy(lessOne(steps(homes, 0, 1), gone), out), true
}

func plainMoves(a, b []int) (int, bool) {
	if len(a) != len(b) {
		return 0, false
	}
	many := 0
	for i := range a {
		if a[i] < -1 || b[i] < -1 {
			return 0, false
		}
		if a[i] != b[i] {
			many++
		}
	}
	return many, true
}

// plainFewest asks nothing of how items are spread: whoever the homes are that have
// one more, of each home as many items may stay as it has and may have.
func plainFewest(homes int, at []int) (int, bool) {
	if !plainPlacesGood(homes, at) {
		return 0, false
	}
	least := len(at)
	for _, more := range listsOf(len(at)%homes, homes) {
		moves := len(at)
		for k := range homes {
			room := len(at) / homes
			if slices.Contains(more, k) {
				room++
			}
			moves -= min(itemsAt(at, k), room)
		}
		least = min(least, moves)
	}
	return least, true
}

func plainRacksGood(racks []int) bool {
	for _, n := range racks {
		if n < 0 || n > 3 {
			return false
		}
	}
	return len(racks) >= 1 && len(racks) <= 6
}

// racksBy are the different racks of homes.
func racksBy(racks []int, homes []int) []int {
	var l []int
	for _, k := range homes {
		if !slices.Contains(l, racks[k]) {
			l = append(l, racks[k])
		}
	}
	return l
}

func plainRacks(racks []int, copies int) ([][]int, bool) {
	if !plainRacksGood(racks) || copies < 1 || copies > 3 || copies > len(racks) {
		return nil, false
	}
	var out [][]int
	for home := range racks {
		round := append(steps(len(racks), 0, 1)[home+1:], steps(home, 0, 1)...)
		l := []int{home}
		for len(l) < copies {
			at := slices.IndexFunc(round, func(k int) bool { return !slices.Contains(racksBy(racks, l), racks[k]) })
			at = max(at, 0)
			l = append(l, round[at])
			round = lessOne(round, at)
		}
		slices.Sort(l)
		out = append(out, l)
	}
	return out, true
}

func plainSafe(racks []int, l [][]int) (bool, bool) {
	if !plainRacksGood(racks) {
		return false, false
	}
	safe := true
	for _, g := range l {
		if !plainRising(g, len(racks)) {
			return false, false
		}
		has := len(racksBy(racks, g))
		if has < len(g) && has < len(racksBy(racks, steps(len(racks), 0, 1))) {
			safe = false
		}
	}
	return safe, true
}

// allPlaces are all places of so many items.
func allPlaces(homes, items int) [][]int {
	return allClocks(items, steps(homes+1, -1, 1)...)
}

// evenPlaces are all places of so many items that are even over these homes.
func evenPlaces(homes []int, items int) [][]int {
	return slices.DeleteFunc(allClocks(items, homes...), func(at []int) bool { return !evenOver(homes, at) })
}

// randomPlaces are good ones; some have most items at one home.
func randomPlaces(r *rand.Rand) (int, []int) {
	homes := 1 + r.IntN(6)
	at := make([]int, r.IntN(17))
	favoured := r.IntN(homes+1) - 1
	leaning := r.IntN(3)
	for i := range at {
		at[i] = r.IntN(homes+1) - 1
		if r.IntN(3) < leaning {
			at[i] = favoured
		}
	}
	return homes, at
}

package tests

import (
	"math/rand/v2"
	"slices"

	"loop.example/g00361/impl"
)

// What chapter 4 says, written once more in the plainest way: epochs are looked
// for one by one, by counting.

func plainEntries(l []int) bool {
	for i, epoch := range l {
		if epoch < 0 || epoch > 100 || i > 0 && epoch < l[i-1] {
			return false
		}
	}
	return len(l) <= 30
}

func plainEpochs(l []int) ([]impl.EpochMark, bool) {
	if !plainEntries(l) {
		return nil, false
	}
	var m []impl.EpochMark
	for epoch := range 101 {
		if at := slices.Index(l, epoch); at >= 0 {
			m = append(m, impl.EpochMark{Epoch: epoch, Start: at})
		}
	}
	return m, true
}

func plainMarksGood(m []impl.EpochMark) bool {
	for i, a := range m {
		if a.Epoch < 0 || a.Epoch > 100 || a.Start < 0 || a.Start > 29 {
			return false
		}
		for _, b := range m[:i] {
			if b.Epoch >= a.Epoch || b.Start >= a.Start {
				return false
			}
		}
	}
	return len(m) <= 30
}

func plainCutMarks(m []impl.EpochMark, at int) ([]impl.EpochMark, bool) {
	if !plainMarksGood(m) || at < 0 || at > 30 {
		return nil, false
	}
	many := 0
	for many < len(m) && m[many].Start < at {
		many++
	}
	return append([]impl.EpochMark(nil), m[:many]...), true
}

func plainEnd(m []impl.EpochMark, end int, epoch int) (int, int, bool) {
	if !plainMarksGood(m) || end < 0 || end > 30 || epoch < 0 || epoch > 100 {
		return 0, 0, false
	}
	for _, mark := range m {
		if mark.Start >= end {
			return 0, 0, false
		}
	}
	for i := len(m) - 1; i >= 0; i-- {
		if m[i].Epoch > epoch {
			end = m[i].Start
			continue
		}
		return m[i].Epoch, end, true
	}
	return -1, 0, true
}

func plainPart(a []int, b []int) (int, bool) {
	if !plainEntries(a) || !plainEntries(b) {
		return 0, false
	}
	for i := range a {
		if i == len(b) || a[i] != b[i] {
			return i, true
		}
	}
	return len(a), true
}

// upTo is how many entries of a log have an epoch that is at most the given one.
func upTo(l []int, epoch int) int {
	many := 0
	for _, e := range l {
		if e <= epoch {
			many++
		}
	}
	return many
}

func plainMatch(leader []int, follower []int) (int, int, bool) {
	if !plainEntries(leader) || !plainEntries(follower) {
		return 0, 0, false
	}
	asked := 0
	for rest := follower; len(rest) > 0; {
		asked++
		epoch := rest[len(rest)-1]
		at := upTo(leader, epoch)
		if at == 0 {
			return 0, asked, true
		}
		if leader[at-1] == epoch {
			return min(at, len(rest)), asked, true
		}
		rest = rest[:upTo(rest, leader[at-1])]
	}
	return 0, asked, true
}

// asOne tells whether each epoch that both logs have begins behind the same
// entries in both.
func asOne(a []int, b []int) bool {
	for epoch := range 101 {
		i, k := slices.Index(a, epoch), slices.Index(b, epoch)
		if i >= 0 && k >= 0 && !slices.Equal(a[:i], b[:k]) {
			return false
		}
	}
	return true
}

// marked are marks, each by its epoch and its start.
func marked(numbers ...int) []impl.EpochMark {
	var m []impl.EpochMark
	for i := 0; i+1 < len(numbers); i += 2 {
		m = append(m, impl.EpochMark{Epoch: numbers[i], Start: numbers[i+1]})
	}
	return m
}

// allEntries are all logs of at most so many entries with epochs below a number.
func allEntries(most int, below int) [][]int {
	all := [][]int{nil}
	for from := 0; len(all[from]) < most; from++ {
		least := 0
		if l := all[from]; len(l) > 0 {
			least = l[len(l)-1]
		}
		for epoch := least; epoch < below; epoch++ {
			all = append(all, append(slices.Clone(all[from]), epoch))
		}
	}
	return all
}

// ofEpochs is a log with so many entries of each epoch from 0 on.
func ofEpochs(many ...int) []int {
	var l []int
	for epoch, n := range many {
		l = append(l, slices.Repeat([]int{epoch}, n)...)
	}
	return l
}

func randomEntries(r *rand.Rand, most int) []int {
	l := make([]int, r.IntN(most+1))
	below := 1 + r.IntN(101)
	for i := range l {
		l[i] = r.IntN(below)
	}
	slices.Sort(l)
	return l
}

// randomTerms are logs as leaders leave them: in each epoch one of the logs, cut
// anywhere, is written on by its leader, and some others take a part of it.
func randomTerms(r *rand.Rand) [][]int {
	logs := make([][]int, 2+r.IntN(3))
	epoch := r.IntN(5)
	for range r.IntN(12) {
		lead := r.IntN(len(logs))
		l := slices.Clone(logs[lead])
		for range r.IntN(6) {
			if len(l) < 30 {
				l = append(l, epoch)
			}
		}
		logs[lead] = l
		for i := range logs {
			if part, _ := plainPart(l, logs[i]); i != lead && r.IntN(2) == 0 {
				logs[i] = slices.Clone(l[:part+r.IntN(len(l)-part+1)])
			}
		}
		epoch += 1 + r.IntN(8)
	}
	return logs
}

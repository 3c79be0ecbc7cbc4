package tests

import (
	"math/rand/v2"
	"slices"

	"loop.example/g00361/impl"
)

// What chapter 7 says, written once more in the plainest way: what is ahead of
// what comes from going through all pairs again and again, and clocks from
// counting what is ahead.

// plainEventsGood holds each event against all others.
func plainEventsGood(procs int, l []impl.Event) bool {
	if procs < 1 || procs > 5 || len(l) > 24 {
		return false
	}
	for i, e := range l {
		if e.Proc < 0 || e.Proc >= procs {
			return false
		}
		sends, takes := withMsg(l, 2, e.Msg), withMsg(l, 3, e.Msg)
		good := false
		switch e.Kind {
		case 1:
			good = e.Msg == 0
		case 2:
			good = e.Msg >= 1 && e.Msg <= 24 && len(sends) == 1
		case 3:
			good = len(sends) == 1 && len(takes) == 1 && sends[0] < i && l[sends[0]].Proc != e.Proc
		}
		if !good {
			return false
		}
	}
	return true
}

// withMsg are the places of the events of a kind with a message.
func withMsg(l []impl.Event, kind, msg int) []int {
	var out []int
	for i, e := range l {
		if e.Kind == kind && e.Msg == msg {
			out = append(out, i)
		}
	}
	return out
}

// plainAhead tells of all pairs of good events whether the first one is ahead.
func plainAhead(l []impl.Event) [][]bool {
	ahead := make([][]bool, len(l))
	for a, x := range l {
		ahead[a] = make([]bool, len(l))
		for b, y := range l {
			ahead[a][b] = x.Proc == y.Proc && a < b || x.Kind == 2 && y.Kind == 3 && x.Msg == y.Msg
		}
	}
	for between := range l {
		for a := range l {
			for b := range l {
				ahead[a][b] = ahead[a][b] || ahead[a][between] && ahead[between][b]
			}
		}
	}
	return ahead
}

func plainPast(ahead [][]bool, b int) []int {
	var out []int
	for a := range ahead {
		if ahead[a][b] {
			out = append(out, a)
		}
	}
	return out
}

func plainConcurrent(ahead [][]bool) int {
	many := 0
	for a := range ahead {
		for b := range a {
			if !ahead[a][b] && !ahead[b][a] {
				many++
			}
		}
	}
	return many
}

// plainScalars are how long the longest chain is that ends with each event.
func plainScalars(ahead [][]bool) []int {
	out := make([]int, len(ahead))
	for b := range ahead {
		out[b] = 1
		for _, a := range plainPast(ahead, b) {
			out[b] = max(out[b], out[a]+1)
		}
	}
	return out
}

// plainVectors are of how many events of each process each one knows, its own
// self among them.
func plainVectors(procs int, l []impl.Event, ahead [][]bool) [][]int {
	var out [][]int
	for b := range l {
		clock := make([]int, procs)
		for _, a := range append(plainPast(ahead, b), b) {
			clock[l[a].Proc]++
		}
		out = append(out, clock)
	}
	return out
}

func plainClock(l []int) bool {
	return len(l) >= 1 && len(l) <= 5 && !slices.ContainsFunc(l, func(n int) bool { return n < 0 || n > 1000 })
}

func plainJoin(a, b []int) ([]int, bool) {
	if !plainClock(a) || !plainClock(b) || len(a) != len(b) {
		return nil, false
	}
	out := slices.Clone(a)
	for i, n := range b {
		if n > out[i] {
			out[i] = n
		}
	}
	return out, true
}

func plainCompare(a, b []int) (int, bool) {
	join, ok := plainJoin(a, b)
	switch {
	case !ok:
		return 0, false
	case slices.Equal(a, b):
		return 0, true
	case slices.Equal(join, b):
		return -1, true
	case slices.Equal(join, a):
		return 1, true
	}
	return 2, true
}

func inside(proc int) impl.Event {
	return impl.Event{Proc: proc, Kind: impl.EvLocal}
}

func sends(proc, msg int) impl.Event {
	return impl.Event{Proc: proc, Kind: impl.EvSend, Msg: msg}
}

func takes(proc, msg int) impl.Event {
	return impl.Event{Proc: proc, Kind: impl.EvTake, Msg: msg}
}

func events(l ...impl.Event) []impl.Event {
	return l
}

// onWayTo are the messages that a process may take.
func onWayTo(proc int, l []impl.Event) []int {
	var out []int
	for _, e := range l {
		if e.Kind == 2 && e.Proc != proc && len(withMsg(l, 3, e.Msg)) == 0 {
			out = append(out, e.Msg)
		}
	}
	return out
}

// allEvents are all good ones, at most so many, messages being numbered as they
// are sent.
func allEvents(procs, most int) [][]impl.Event {
	all := [][]impl.Event{nil}
	for from := 0; from < len(all) && len(all[from]) < most; from++ {
		l := all[from]
		sent := 0
		for _, e := range l {
			sent = max(sent, e.Msg)
		}
		for proc := range procs {
			next := events(inside(proc), sends(proc, sent+1))
			for _, msg := range onWayTo(proc, l) {
				next = append(next, takes(proc, msg))
			}
			for _, e := range next {
				all = append(all, append(slices.Clone(l), e))
			}
		}
	}
	return all
}

// randomEvents are good ones, messages being numbered in any order.
func randomEvents(r *rand.Rand, procs int) []impl.Event {
	var l []impl.Event
	msgs := r.Perm(24)
	for range r.IntN(25) {
		proc := r.IntN(procs)
		way := onWayTo(proc, l)
		switch {
		case len(way) > 0 && r.IntN(4) > 0:
			l = append(l, takes(proc, way[r.IntN(len(way))]))
		case r.IntN(3) > 0:
			l = append(l, sends(proc, msgs[0]+1))
			msgs = msgs[1:]
		default:
			l = append(l, inside(proc))
		}
	}
	return l
}

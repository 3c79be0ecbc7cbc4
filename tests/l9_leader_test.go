package tests

import (
	"fmt"
	"slices"
	"testing"

	"loop.example/g00361/impl"
)

// Promise 9: in an election that PlayElection made each term has one leader at
// most, and each has a log as up to date as those of more than half.

// wantOneLeader asks for the promise in an election that a play made.
func wantOneLeader(t *testing.T, e impl.Election) {
	t.Helper()
	leaders := map[int]int{}
	for _, v := range e.Led {
		if _, twice := leaders[v.Term]; twice {
			t.Error("a term has been led twice", v, e)
		}
		leaders[v.Term] = v.Leader
		if got, ok := impl.LeaderOf(e, v.Term); got != v.Leader || !ok {
			t.Error("not the leader of its term", v, got, ok)
		}
		if may, ok := impl.MayLead(e, v.Leader); !may || !ok {
			t.Error("one leads that may not", v, e)
		}
		behind := 0
		for _, s := range e.Servers {
			if plainTold(plainLast(e.Servers[v.Leader].Log), len(e.Servers[v.Leader].Log), s.Log) {
				behind++
			}
		}
		if 2*behind <= len(e.Servers) {
			t.Error("a leader's log is behind those of half", v, e)
		}
	}
	for k, s := range e.Servers {
		if leader, led := leaders[s.Term]; s.Leads && (!led || leader != k) {
			t.Error("one leads that did not come to lead", k, e)
		}
	}
}

// wantKept asks of a step that was done that terms do not fall, a vote of a term
// stays, logs are as they were, and who led is still told.
func wantKept(t *testing.T, before, after impl.Election, x impl.ElectStep) {
	t.Helper()
	if len(after.Servers) != len(before.Servers) || len(after.Led) < len(before.Led) || !slices.Equal(after.Led[:len(before.Led)], before.Led) {
		t.Error("who led is not kept", before, x, after)
		return
	}
	for k, now := range after.Servers {
		then := before.Servers[k]
		if now.Term < then.Term || now.Term == then.Term && then.Voted != -1 && now.Voted != then.Voted {
			t.Error("a vote is not kept", before, x, after)
		}
		if !slices.Equal(now.Log, then.Log) {
			t.Error("a log is not kept", before, x, after)
		}
	}
}

// letterNumber is another one for each letter.
func letterNumber(x impl.Letter) int {
	n := 0
	for _, field := range []int{x.To, x.From, x.Term, x.Last + 1, x.Long} {
		n = n*128 + field
	}
	n *= 4
	if x.Asks {
		n += 2
	}
	if x.Grant {
		n++
	}
	return n
}

// keyOf tells elections apart that differ by more than the order of their letters.
func keyOf(e impl.Election) string {
	e = copyOfElection(e)
	slices.SortFunc(e.Post, func(a, b impl.Letter) int { return letterNumber(a) - letterNumber(b) })
	return fmt.Sprint(e)
}

// fewElectSteps are the steps that lead on while no term is above a number and
// there are few letters.
func fewElectSteps(e impl.Election, mostTerm, mostPost int) []impl.ElectStep {
	var l []impl.ElectStep
	for k, s := range e.Servers {
		if s.Term < mostTerm && len(e.Post)+len(e.Servers)-1 <= mostPost {
			l = append(l, elTimeout(k))
		}
		if s.Stands || s.Leads {
			l = append(l, elCrash(k))
		}
	}
	for k := range e.Post {
		l = append(l, elTake(k), elLose(k))
		if len(e.Post) < mostPost {
			l = append(l, elTwice(k))
		}
	}
	return l
}

// All elections that few servers come to, in whatever order letters come.
func TestAllFewElections(t *testing.T) {
	for _, c := range []struct {
		logs     [][]int
		term     int
		post     int
		leastLed int
	}{
		{[][]int{{1}}, 14, 0, 4},
		{[][]int{{1}, {1}}, 12, 3, 2},
		{[][]int{{1}, {1}, {1}}, 11, 4, 1},
		{[][]int{{1, 2}, {1}, {1, 2, 2}}, 12, 2, 2},
	} {
		first, ok := impl.NewElection(c.logs)
		if !ok {
			t.Fatal(c)
		}
		seen := map[string]bool{}
		all := []impl.Election{first}
		led := 0
		for at := 0; at < len(all); at++ {
			e := all[at]
			led = max(led, len(e.Led))
			wantOneLeader(t, e)
			for _, x := range fewElectSteps(e, c.term, c.post) {
				got, ok := wantElectStep(t, "few", e, x)
				if !ok {
					continue
				}
				wantKept(t, e, got, x)
				if key := keyOf(got); !seen[key] {
					seen[key] = true
					all = append(all, got)
				}
			}
		}
		if led < c.leastLed {
			t.Error("too few came to lead", c, led)
		}
	}
}

// In a term in which all stand, and all letters come to all, in any order, twice,
// and over crashes, no two come to lead.
func TestAllStandInOneTerm(t *testing.T) {
	r := newRandom()
	led := 0
	for range 400 {
		logs := randomLogs(r)
		e, ok := impl.NewElection(logs)
		if !ok {
			t.Fatal(logs)
		}
		for range 300 {
			x := elTake(r.IntN(20))
			switch k := r.IntN(len(logs)); r.IntN(12) {
			case 0:
				x = elTwice(r.IntN(20))
			case 1:
				x = elCrash(k)
			case 2, 3:
				if e.Servers[k].Term == 10 {
					x = elTimeout(k)
				}
			}
			if next, ok := impl.StepElection(e, x); ok {
				wantKept(t, e, next, x)
				e = next
			}
		}
		wantOneLeader(t, e)
		led += len(e.Led)
	}
	if led < 100 {
		t.Error("too few came to lead", led)
	}
}

func TestPlaysHaveOneLeader(t *testing.T) {
	r := newRandom()
	led := 0
	for range 1500 {
		logs := randomLogs(r)
		l := randomElectSteps(r, len(logs), r.IntN(81))
		wantElectPlay(t, "random", logs, l)
		e, _, ok := impl.PlayElection(logs, l)
		if !ok {
			t.Fatal(logs, l)
		}
		wantElection(t, "random", e)
		wantOneLeader(t, e)
		led += len(e.Led)
	}
	if led < 1000 {
		t.Error("too few came to lead", led)
	}
}

func TestStepsKeepTermsAndVotes(t *testing.T) {
	r := newRandom()
	for range 400 {
		logs := randomLogs(r)
		e, _ := impl.NewElection(logs)
		for _, x := range randomElectSteps(r, len(logs), 80) {
			if next, ok := impl.StepElection(e, x); ok {
				wantKept(t, e, next, x)
				e = next
			}
		}
	}
}

// Two lead at once in unlike terms, the elder one coming to lead last.
func TestALateLeaderOfAnOlderTerm(t *testing.T) {
	e, did, ok := impl.PlayElection(make([][]int, 3), []impl.ElectStep{elTimeout(0), elTake(0), elLose(0), elTimeout(1), elTake(2), elTake(2), elTake(0)})
	want := []impl.Vote{{Term: 12, Leader: 1}, {Term: 11, Leader: 0}}
	if !ok || slices.Contains(did, false) || !slices.Equal(e.Led, want) || !e.Servers[0].Leads || !e.Servers[1].Leads {
		t.Error(e, did, ok)
	}
	wantOneLeader(t, e)
	for _, v := range want {
		if got, ok := impl.LeaderOf(e, v.Term); got != v.Leader || !ok {
			t.Error(v, got, ok)
		}
	}
}

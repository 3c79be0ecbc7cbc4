package tests

import (
	"math/rand/v2"
	"slices"

	"loop.example/g00361/impl"
)

// What chapter 9 says, written once more in the plainest way: room is asked for
// ahead of each step, and logs are held against each other entry by entry.

// plainElection has servers with these logs at its beginning, however many.
func plainElection(logs ...[]int) impl.Election {
	var e impl.Election
	for _, l := range logs {
		e.Servers = append(e.Servers, impl.Server{Term: 10, Voted: -1, Log: slices.Clone(l)})
	}
	return e
}

func plainNewElection(logs [][]int) (impl.Election, bool) {
	if len(logs) < 1 || len(logs) > 5 {
		return impl.Election{}, false
	}
	for _, l := range logs {
		if !plainEntries(l) || outside(l, 0, 10) {
			return impl.Election{}, false
		}
	}
	return plainElection(logs...), true
}

// plainServerGood is of one of so many servers.
func plainServerGood(s impl.Server, servers int) bool {
	if outside([]int{s.Term}, 0, 100) || outside([]int{s.Voted}, -1, servers-1) || !plainEntries(s.Log) {
		return false
	}
	switch {
	case s.Stands && s.Leads:
		return false
	case s.Stands, s.Leads:
		return plainRising(s.Got, servers)
	}
	return len(s.Got) == 0
}

func plainLetterGood(x impl.Letter, servers []impl.Server) bool {
	if outside([]int{x.To, x.From}, 0, len(servers)-1) || x.To == x.From {
		return false
	}
	if x.Term < 0 || x.Term > servers[x.From].Term {
		return false
	}
	if !x.Asks {
		return x == impl.Letter{To: x.To, From: x.From, Term: x.Term, Grant: x.Grant}
	}
	return !x.Grant && !outside([]int{x.Last}, -1, 100) && !outside([]int{x.Long}, 0, 30)
}

func plainElectionGood(e impl.Election) bool {
	servers := len(e.Servers)
	if servers < 1 || servers > 5 || len(e.Post) > 20 || len(e.Led) > 80 {
		return false
	}
	for _, s := range e.Servers {
		if !plainServerGood(s, servers) {
			return false
		}
	}
	for _, x := range e.Post {
		if !plainLetterGood(x, e.Servers) {
			return false
		}
	}
	for _, v := range e.Led {
		if outside([]int{v.Term}, 0, 100) || outside([]int{v.Leader}, 0, servers-1) {
			return false
		}
	}
	return true
}

// plainLast is the term of a log's last entry.
func plainLast(l []int) int {
	last := -1
	for _, term := range l {
		last = term
	}
	return last
}

func plainUpToDate(a, b []int) (bool, bool) {
	if !plainEntries(a) || !plainEntries(b) {
		return false, false
	}
	return plainTold(plainLast(a), len(a), b), true
}

// plainTold is of a log of which only this is told.
func plainTold(last, long int, b []int) bool {
	if last == plainLast(b) {
		return long >= len(b)
	}
	return last > plainLast(b)
}

func plainStopped(s *impl.Server) {
	s.Stands, s.Leads = false, false
	s.Got = nil
}

// plainLeads has a server lead where so many are more than half.
func plainLeads(e *impl.Election, k int) bool {
	s := &e.Servers[k]
	if len(s.Got) <= len(e.Servers)/2 {
		return true
	}
	s.Stands, s.Leads = false, true
	e.Led = append(e.Led, impl.Vote{Term: s.Term, Leader: k})
	return len(e.Led) <= 80
}

func plainTimeout(e *impl.Election, k int) bool {
	s := &e.Servers[k]
	if s.Leads || s.Term > 99 || 20-len(e.Post) < len(e.Servers)-1 {
		return false
	}
	*s = impl.Server{Term: s.Term + 1, Voted: k, Stands: true, Got: []int{k}, Log: s.Log}
	for to := range e.Servers {
		if to != k {
			e.Post = append(e.Post, impl.Letter{To: to, From: k, Term: s.Term, Asks: true, Last: plainLast(s.Log), Long: len(s.Log)})
		}
	}
	return plainLeads(e, k)
}

func plainLetterTaken(e *impl.Election, k int) bool {
	x := e.Post[k]
	e.Post = slices.Delete(e.Post, k, k+1)
	s := &e.Servers[x.To]
	if x.Term > s.Term {
		plainStopped(s)
		s.Term, s.Voted = x.Term, -1
	}
	if x.Asks {
		answer := impl.Letter{To: x.From, From: x.To, Term: s.Term}
		if x.Term == s.Term && (s.Voted == -1 || s.Voted == x.From) && plainTold(x.Last, x.Long, s.Log) {
			answer.Grant = true
			s.Voted = x.From
		}
		e.Post = append(e.Post, answer)
		return true
	}
	if !x.Grant || x.Term < s.Term || !s.Stands {
		return true
	}
	if !slices.Contains(s.Got, x.From) {
		s.Got = append(s.Got, x.From)
		slices.Sort(s.Got)
	}
	return plainLeads(e, x.To)
}

func plainElectStep(e impl.Election, x impl.ElectStep) (impl.Election, bool) {
	if !plainElectionGood(e) || x.K < 0 {
		return impl.Election{}, false
	}
	e = copyOfElection(e)
	done := false
	switch x.Kind {
	case 1:
		done = x.K < len(e.Servers) && plainTimeout(&e, x.K)
	case 2:
		done = x.K < len(e.Post) && plainLetterTaken(&e, x.K)
	case 3:
		if x.K < len(e.Post) {
			e.Post = slices.Delete(e.Post, x.K, x.K+1)
			done = true
		}
	case 4:
		if x.K < len(e.Post) && len(e.Post) < 20 {
			e.Post = append(e.Post, e.Post[x.K])
			done = true
		}
	case 5:
		if x.K < len(e.Servers) {
			plainStopped(&e.Servers[x.K])
			done = true
		}
	}
	if !done {
		return impl.Election{}, false
	}
	return e, true
}

func plainElectPlay(logs [][]int, l []impl.ElectStep) (impl.Election, []bool, bool) {
	e, ok := plainNewElection(logs)
	if !ok || len(l) > 80 {
		return impl.Election{}, nil, false
	}
	var did []bool
	for _, x := range l {
		next, done := plainElectStep(e, x)
		did = append(did, done)
		if done {
			e = next
		}
	}
	return e, did, true
}

func plainLeaderOf(e impl.Election, term int) (int, bool) {
	at := slices.IndexFunc(e.Led, func(v impl.Vote) bool { return v.Term == term })
	if !plainElectionGood(e) || at < 0 {
		return 0, false
	}
	return e.Led[at].Leader, true
}

func plainMayLead(e impl.Election, server int) (bool, bool) {
	if !plainElectionGood(e) || server < 0 || server >= len(e.Servers) {
		return false, false
	}
	behind, ahead := 0, 0
	for _, s := range e.Servers {
		if up, _ := plainUpToDate(e.Servers[server].Log, s.Log); up {
			behind++
		} else {
			ahead++
		}
	}
	return behind > ahead, true
}

func elTimeout(k int) impl.ElectStep {
	return impl.ElectStep{Kind: impl.ElTimeout, K: k}
}

func elTake(k int) impl.ElectStep {
	return impl.ElectStep{Kind: impl.ElTake, K: k}
}

func elLose(k int) impl.ElectStep {
	return impl.ElectStep{Kind: impl.ElLose, K: k}
}

func elTwice(k int) impl.ElectStep {
	return impl.ElectStep{Kind: impl.ElTwice, K: k}
}

func elCrash(k int) impl.ElectStep {
	return impl.ElectStep{Kind: impl.ElCrash, K: k}
}

// electionAfter is where steps lead; each must be done.
func electionAfter(e impl.Election, l ...impl.ElectStep) impl.Election {
	for _, x := range l {
		next, ok := plainElectStep(e, x)
		if !ok {
			panic("no step")
		}
		e = next
	}
	return e
}

func sameServers(a, b []impl.Server) bool {
	return slices.EqualFunc(a, b, func(x, y impl.Server) bool {
		return x.Term == y.Term && x.Voted == y.Voted && x.Stands == y.Stands && x.Leads == y.Leads &&
			slices.Equal(x.Got, y.Got) && slices.Equal(x.Log, y.Log)
	})
}

func sameElection(a, b impl.Election) bool {
	return sameServers(a.Servers, b.Servers) && slices.Equal(a.Post, b.Post) && slices.Equal(a.Led, b.Led)
}

// copyOfElection shares no list with what it is given.
func copyOfElection(e impl.Election) impl.Election {
	out := impl.Election{Post: slices.Clone(e.Post), Led: slices.Clone(e.Led)}
	for _, s := range e.Servers {
		s.Got, s.Log = slices.Clone(s.Got), slices.Clone(s.Log)
		out.Servers = append(out.Servers, s)
	}
	return out
}

// electStepsOn are all steps, and those right beside them, that such an election has.
func electStepsOn(e impl.Election) []impl.ElectStep {
	var l []impl.ElectStep
	for k := -1; k <= max(len(e.Servers), len(e.Post)); k++ {
		for kind := -1; kind <= 6; kind++ {
			l = append(l, impl.ElectStep{Kind: kind, K: k})
		}
	}
	return l
}

// randomLogs are few entries of few terms, so that some are alike and none is
// always ahead.
func randomLogs(r *rand.Rand) [][]int {
	logs := make([][]int, 1+r.IntN(5))
	for i := range logs {
		for range r.IntN(4) {
			logs[i] = append(logs[i], r.IntN(3)*5)
		}
		slices.Sort(logs[i])
	}
	return logs
}

// randomElectSteps mostly take letters near to the front; the first ones are there
// more often.
func randomElectSteps(r *rand.Rand, servers, many int) []impl.ElectStep {
	var l []impl.ElectStep
	for range many {
		letter := r.IntN(1 + r.IntN(6))
		switch r.IntN(14) {
		case 0, 1:
			l = append(l, elTimeout(r.IntN(servers)))
		case 2:
			l = append(l, elLose(letter))
		case 3, 4:
			l = append(l, elTwice(letter))
		case 5:
			l = append(l, elCrash(r.IntN(servers)))
		case 6:
			l = append(l, impl.ElectStep{Kind: r.IntN(8) - 1, K: r.IntN(24) - 1})
		default:
			l = append(l, elTake(letter))
		}
	}
	return l
}

// randomElection is one that steps lead to.
func randomElection(r *rand.Rand) impl.Election {
	logs := randomLogs(r)
	e, _, _ := plainElectPlay(logs, randomElectSteps(r, len(logs), r.IntN(60)))
	return e
}

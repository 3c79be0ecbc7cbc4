package tests

import (
	"math/rand/v2"
	"slices"

	"loop.example/g00361/impl"
)

// What chapter 10 says, written once more in the plainest way: entry by entry, and
// each limit as a number.

// plainRaft has so many peers at its beginning, however many.
func plainRaft(peers int) impl.Raft {
	var r impl.Raft
	for range peers {
		r.Peers = append(r.Peers, impl.Peer{Match: make([]int, peers)})
	}
	return r
}

func plainNewRaft(peers int) (impl.Raft, bool) {
	if peers < 1 || peers > 5 {
		return impl.Raft{}, false
	}
	return plainRaft(peers), true
}

func plainRaftLogGood(l []impl.Entry, mostTerm int) bool {
	if len(l) > 30 {
		return false
	}
	for i, e := range l {
		if e.Term < 0 || e.Term > mostTerm || e.Value < 0 || e.Value > 99 {
			return false
		}
		if i > 0 && l[i-1].Term > e.Term {
			return false
		}
	}
	return true
}

func plainPeerGood(p impl.Peer, peers int) bool {
	if p.Term < 0 || p.Term > 100 || !plainRaftLogGood(p.Log, p.Term) {
		return false
	}
	if p.Commit < 0 || p.Commit > len(p.Log) || len(p.Match) != peers {
		return false
	}
	if p.Leads {
		return !outside(p.Match, 0, len(p.Log))
	}
	return !outside(p.Match, 0, 0)
}

func plainMailGood(m impl.Mail, peers int) bool {
	if outside([]int{m.From, m.To}, 0, peers-1) || m.From == m.To || m.Term < 0 || m.Term > 100 {
		return false
	}
	if m.Reply {
		return m.Prev == 0 && m.PTerm == 0 && len(m.Entry) == 0 && m.Commit == 0 && m.Match >= 0 && m.Match <= 30
	}
	if m.Match != 0 || outside([]int{m.Prev, m.Commit}, 0, 30) || len(m.Entry) > 1 {
		return false
	}
	if m.Prev == 0 && m.PTerm != -1 || m.Prev > 0 && m.PTerm < 0 || m.PTerm > m.Term {
		return false
	}
	for _, e := range m.Entry {
		if outside([]int{e.Term}, max(0, m.PTerm), m.Term) || outside([]int{e.Value}, 0, 99) {
			return false
		}
	}
	return true
}

func plainRaftGood(r impl.Raft) bool {
	peers := len(r.Peers)
	if peers < 1 || peers > 5 || len(r.Mail) > 20 {
		return false
	}
	for _, p := range r.Peers {
		if !plainPeerGood(p, peers) {
			return false
		}
	}
	for _, m := range r.Mail {
		if !plainMailGood(m, peers) {
			return false
		}
	}
	return true
}

func plainTerms(l []impl.Entry) []int {
	var terms []int
	for _, e := range l {
		terms = append(terms, e.Term)
	}
	return terms
}

func plainStepsDown(p *impl.Peer, term int) {
	p.Term = term
	p.Leads = false
	p.Match = make([]int, len(p.Match))
}

func plainRfElect(r *impl.Raft, k, n int) bool {
	if k >= len(r.Peers) || n < 0 || n >= 1<<len(r.Peers) || n>>k&1 == 0 {
		return false
	}
	votes, term := 0, 0
	for i, p := range r.Peers {
		if n>>i&1 == 0 {
			continue
		}
		if up, _ := plainUpToDate(plainTerms(r.Peers[k].Log), plainTerms(p.Log)); !up {
			return false
		}
		votes++
		term = max(term, p.Term)
	}
	if votes <= len(r.Peers)/2 || term > 99 {
		return false
	}
	for i := range r.Peers {
		if n>>i&1 == 1 {
			plainStepsDown(&r.Peers[i], term+1)
		}
	}
	r.Peers[k].Leads = true
	r.Peers[k].Match[k] = len(r.Peers[k].Log)
	return true
}

func plainRfPropose(p *impl.Peer, k, n int) bool {
	if !p.Leads || n < 0 || n > 99 || len(p.Log) > 29 {
		return false
	}
	p.Log = append(p.Log, impl.Entry{Term: p.Term, Value: n})
	p.Match[k] = len(p.Log)
	return true
}

func plainRfSend(r *impl.Raft, k, to, n int) bool {
	p := r.Peers[k]
	if !p.Leads || to < 0 || to >= len(r.Peers) || to == k || n < 0 || n > len(p.Log) || len(r.Mail) > 19 {
		return false
	}
	m := impl.Mail{From: k, To: to, Term: p.Term, Prev: n, PTerm: -1, Commit: p.Commit}
	if n > 0 {
		m.PTerm = p.Log[n-1].Term
	}
	if n < len(p.Log) {
		m.Entry = []impl.Entry{p.Log[n]}
	}
	r.Mail = append(r.Mail, m)
	return true
}

func plainRfCommit(p *impl.Peer, n int) bool {
	if !p.Leads || n <= p.Commit || n > len(p.Log) || p.Log[n-1].Term != p.Term {
		return false
	}
	have, not := 0, 0
	for _, m := range p.Match {
		if m < n {
			not++
		} else {
			have++
		}
	}
	if have <= not {
		return false
	}
	p.Commit = n
	return true
}

func plainRfTake(r *impl.Raft, k int) {
	m := r.Mail[k]
	r.Mail = slices.Delete(r.Mail, k, k+1)
	p := &r.Peers[m.To]
	if m.Term > p.Term {
		plainStepsDown(p, m.Term)
	}
	if m.Term < p.Term {
		return
	}
	if m.Reply {
		if p.Leads && p.Match[m.From] < m.Match && m.Match <= len(p.Log) {
			p.Match[m.From] = m.Match
		}
		return
	}
	if len(p.Log) < m.Prev || m.Prev > 0 && p.Log[m.Prev-1].Term != m.PTerm {
		return
	}
	there := 0
	if len(m.Entry) == 1 {
		if len(p.Log) > m.Prev && p.Log[m.Prev].Term != m.Entry[0].Term {
			p.Log = slices.Clone(p.Log[:m.Prev])
		}
		if len(p.Log) == m.Prev && len(p.Log) < 30 {
			p.Log = append(p.Log, m.Entry[0])
		}
		if len(p.Log) > m.Prev {
			there = 1
		}
	}
	if commit := min(m.Commit, m.Prev+there); commit > p.Commit {
		p.Commit = commit
	}
	p.Commit = min(p.Commit, len(p.Log))
	for i := range p.Match {
		p.Match[i] = min(p.Match[i], len(p.Log))
	}
	r.Mail = append(r.Mail, impl.Mail{Reply: true, From: m.To, To: m.From, Term: p.Term, Match: m.Prev + there})
}

func plainLetterStep(r *impl.Raft, x impl.RaftStep) bool {
	if x.K >= len(r.Mail) || x.To != 0 || x.N != 0 {
		return false
	}
	switch x.Kind {
	case 4:
		plainRfTake(r, x.K)
	case 5:
		r.Mail = slices.Delete(r.Mail, x.K, x.K+1)
	case 6:
		if len(r.Mail) == 20 {
			return false
		}
		m := r.Mail[x.K]
		m.Entry = slices.Clone(m.Entry)
		r.Mail = append(r.Mail, m)
	}
	return true
}

func plainPeerStep(r *impl.Raft, x impl.RaftStep) bool {
	if x.K >= len(r.Peers) {
		return false
	}
	if x.Kind == 3 {
		return plainRfSend(r, x.K, x.To, x.N)
	}
	if x.To != 0 {
		return false
	}
	switch x.Kind {
	case 1:
		return plainRfElect(r, x.K, x.N)
	case 2:
		return plainRfPropose(&r.Peers[x.K], x.K, x.N)
	}
	return plainRfCommit(&r.Peers[x.K], x.N)
}

func plainRaftStep(r impl.Raft, x impl.RaftStep) (impl.Raft, bool) {
	if !plainRaftGood(r) || x.K < 0 {
		return impl.Raft{}, false
	}
	r = copyOfRaft(r)
	done := false
	switch x.Kind {
	case 1, 2, 3, 7:
		done = plainPeerStep(&r, x)
	case 4, 5, 6:
		done = plainLetterStep(&r, x)
	}
	if !done {
		return impl.Raft{}, false
	}
	return r, true
}

func plainRaftPlay(peers int, l []impl.RaftStep) (impl.Raft, []bool, bool) {
	r, ok := plainNewRaft(peers)
	if !ok || len(l) > 100 {
		return impl.Raft{}, nil, false
	}
	var did []bool
	for _, x := range l {
		next, done := plainRaftStep(r, x)
		did = append(did, done)
		if done {
			r = next
		}
	}
	return r, did, true
}

func plainCommitted(r impl.Raft) ([]impl.Entry, bool) {
	if !plainRaftGood(r) {
		return nil, false
	}
	for most := 30; most > 0; most-- {
		for _, p := range r.Peers {
			if p.Commit == most {
				return p.Log[:most], true
			}
		}
	}
	return nil, true
}

func plainLogsMatch(a, b []impl.Entry) (bool, bool) {
	if !plainRaftLogGood(a, 100) || !plainRaftLogGood(b, 100) {
		return false, false
	}
	same, match := true, true
	for i := range min(len(a), len(b)) {
		same = same && a[i] == b[i]
		if a[i].Term == b[i].Term {
			match = same
		}
	}
	return match, true
}

func plainLeaders(r impl.Raft) ([]int, bool) {
	if !plainRaftGood(r) {
		return nil, false
	}
	var l []int
	for k := range r.Peers {
		if r.Peers[k].Leads {
			l = append(l, k)
		}
	}
	return l, true
}

func plainEntryAt(r impl.Raft, peer, at int) (impl.Entry, bool) {
	if !plainRaftGood(r) || peer < 0 || peer >= len(r.Peers) || at < 0 || at >= len(r.Peers[peer].Log) {
		return impl.Entry{}, false
	}
	return r.Peers[peer].Log[at], true
}

func rfElect(k, n int) impl.RaftStep {
	return impl.RaftStep{Kind: impl.RfElect, K: k, N: n}
}

func rfPropose(k, n int) impl.RaftStep {
	return impl.RaftStep{Kind: impl.RfPropose, K: k, N: n}
}

func rfSend(k, to, n int) impl.RaftStep {
	return impl.RaftStep{Kind: impl.RfSend, K: k, To: to, N: n}
}

func rfTake(k int) impl.RaftStep {
	return impl.RaftStep{Kind: impl.RfTake, K: k}
}

func rfLose(k int) impl.RaftStep {
	return impl.RaftStep{Kind: impl.RfLose, K: k}
}

func rfTwice(k int) impl.RaftStep {
	return impl.RaftStep{Kind: impl.RfTwice, K: k}
}

func rfCommit(k, n int) impl.RaftStep {
	return impl.RaftStep{Kind: impl.RfCommit, K: k, N: n}
}

// entries has one of each term, with the place as its Value.
func entries(terms ...int) []impl.Entry {
	var l []impl.Entry
	for i, term := range terms {
		l = append(l, impl.Entry{Term: term, Value: i})
	}
	return l
}

// raftAfter is where steps lead; each must be done.
func raftAfter(r impl.Raft, l ...impl.RaftStep) impl.Raft {
	for _, x := range l {
		next, ok := plainRaftStep(r, x)
		if !ok {
			panic("no step")
		}
		r = next
	}
	return r
}

func samePeers(a, b []impl.Peer) bool {
	return slices.EqualFunc(a, b, func(x, y impl.Peer) bool {
		return x.Term == y.Term && x.Leads == y.Leads && slices.Equal(x.Log, y.Log) &&
			x.Commit == y.Commit && slices.Equal(x.Match, y.Match)
	})
}

func sameMail(a, b []impl.Mail) bool {
	return slices.EqualFunc(a, b, func(x, y impl.Mail) bool {
		return x.Reply == y.Reply && x.From == y.From && x.To == y.To && x.Term == y.Term && x.Prev == y.Prev &&
			x.PTerm == y.PTerm && slices.Equal(x.Entry, y.Entry) && x.Commit == y.Commit && x.Match == y.Match
	})
}

func sameRaft(a, b impl.Raft) bool {
	return samePeers(a.Peers, b.Peers) && sameMail(a.Mail, b.Mail)
}

// copyOfRaft shares no list with what it is given.
func copyOfRaft(r impl.Raft) impl.Raft {
	var out impl.Raft
	for _, p := range r.Peers {
		p.Log, p.Match = slices.Clone(p.Log), slices.Clone(p.Match)
		out.Peers = append(out.Peers, p)
	}
	for _, m := range r.Mail {
		m.Entry = slices.Clone(m.Entry)
		out.Mail = append(out.Mail, m)
	}
	return out
}

// raftStepsOn are all steps, and those right beside them, that such a raft has.
func raftStepsOn(r impl.Raft) []impl.RaftStep {
	var l []impl.RaftStep
	peers, longest := len(r.Peers), 0
	for _, p := range r.Peers {
		longest = max(longest, len(p.Log))
	}
	for k := -1; k <= peers; k++ {
		for n := -1; n <= 1<<peers+1; n++ {
			l = append(l, rfElect(k, n))
		}
		for _, n := range []int{-1, 0, 1, 50, 99, 100} {
			l = append(l, rfPropose(k, n))
		}
		for n := -1; n <= longest+1; n++ {
			l = append(l, rfCommit(k, n))
			for to := -1; to <= peers; to++ {
				l = append(l, rfSend(k, to, n))
			}
		}
	}
	for k := -1; k <= len(r.Mail); k++ {
		l = append(l, rfTake(k), rfLose(k), rfTwice(k))
	}
	return append(l, strayRaftSteps(r)...)
}

// strayRaftSteps have a number in a field for which they have no use, or are of no
// kind.
func strayRaftSteps(r impl.Raft) []impl.RaftStep {
	var l []impl.RaftStep
	for k := range max(len(r.Peers), len(r.Mail)) {
		for _, n := range []int{-1, 1, 2} {
			for _, kind := range []int{impl.RfTake, impl.RfLose, impl.RfTwice} {
				l = append(l, impl.RaftStep{Kind: kind, K: k, N: n}, impl.RaftStep{Kind: kind, K: k, To: n})
			}
			l = append(l, impl.RaftStep{Kind: impl.RfElect, K: k, To: n, N: 1<<len(r.Peers) - 1},
				impl.RaftStep{Kind: impl.RfPropose, K: k, To: n, N: 5})
			for many := range 4 {
				l = append(l, impl.RaftStep{Kind: impl.RfCommit, K: k, To: n, N: many})
			}
		}
		for _, kind := range []int{-1, 0, 8, 100} {
			l = append(l, impl.RaftStep{Kind: kind, K: k}, impl.RaftStep{Kind: kind, K: k, To: 1, N: 1})
		}
	}
	return l
}

// newestLeader is the one that leads in the greatest term; the first peer, where
// nobody leads.
func newestLeader(r impl.Raft) int {
	at, term := 0, -1
	for k, p := range r.Peers {
		if p.Leads && p.Term > term {
			at, term = k, p.Term
		}
	}
	return at
}

// sharedByMost is how many entries of a leader's more than half are known to share.
func sharedByMost(p impl.Peer) int {
	match := slices.Sorted(slices.Values(p.Match))
	return match[(len(match)-1)/2]
}

// randomRaftStep is one that mostly can be done: a leader, mostly the newest one,
// sends what comes next, letters are taken, and what is shared is committed.
func randomRaftStep(r *rand.Rand, now impl.Raft) impl.RaftStep {
	peers := len(now.Peers)
	k := newestLeader(now)
	if r.IntN(5) == 0 {
		k = r.IntN(peers)
	}
	p, to := now.Peers[k], r.IntN(peers)
	letter := r.IntN(max(1, len(now.Mail)))
	chance := 40
	if len(now.Mail) == 0 {
		chance = 23
	}
	if !p.Leads && r.IntN(2) == 0 {
		chance = 1
	}
	switch r.IntN(chance) {
	case 0:
		own := r.IntN(peers)
		return rfElect(own, 1<<own|r.IntN(1<<peers))
	case 1, 2, 3:
		// Logs that are full of what can't be committed would end all.
		if last := len(p.Log) - 2; last < p.Commit || p.Log[last].Term < p.Term || r.IntN(6) == 0 {
			return rfPropose(k, r.IntN(100))
		}
	case 4, 5, 6, 7:
		return rfSend(k, to, p.Match[to])
	case 8, 9, 10, 11:
		return rfSend(k, to, min(len(p.Log), len(now.Peers[to].Log)))
	case 12, 13:
		return rfSend(k, to, r.IntN(len(p.Log)+1))
	case 14, 15, 16, 17, 18:
		return rfCommit(k, sharedByMost(p))
	case 19:
		return rfCommit(k, r.IntN(len(p.Log)+2))
	case 20:
		return rfLose(letter)
	case 21:
		return rfTwice(letter)
	case 22:
		return impl.RaftStep{Kind: r.IntN(9), K: r.IntN(6) - 1, To: r.IntN(6) - 1, N: r.IntN(8) - 1}
	}
	return rfTake(letter)
}

// randomRaftSteps are such steps, each for where those ahead of it lead.
func randomRaftSteps(r *rand.Rand, peers, many int) []impl.RaftStep {
	now := plainRaft(peers)
	var l []impl.RaftStep
	for range many {
		x := randomRaftStep(r, now)
		l = append(l, x)
		if next, done := plainRaftStep(now, x); done {
			now = next
		}
	}
	return l
}

// randomRaft is one that steps lead to.
func randomRaft(r *rand.Rand) impl.Raft {
	peers := 1 + r.IntN(5)
	out, _, _ := plainRaftPlay(peers, randomRaftSteps(r, peers, r.IntN(90)))
	return out
}

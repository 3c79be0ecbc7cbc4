package tests

import (
	"slices"
	"testing"

	"loop.example/g00361/impl"
)

// Promise 10: in a raft that PlayRaft made logs match, what is committed is one, and
// each leader of the greatest term has it.

// beginsWith tells whether a log has these entries as its first ones.
func beginsWith(l, first []impl.Entry) bool {
	return len(l) >= len(first) && slices.Equal(l[:len(first)], first)
}

// wantOneLog asks for the promise in a raft that steps led to.
func wantOneLog(t *testing.T, r impl.Raft) {
	t.Helper()
	committed, ok := impl.CommittedIn(r)
	if !ok {
		t.Error("not good", r)
	}
	greatest := -1
	for _, p := range r.Peers {
		if !beginsWith(committed, p.Log[:p.Commit]) {
			t.Error("what is committed is not one", r)
		}
		if p.Leads {
			greatest = max(greatest, p.Term)
		}
		for _, q := range r.Peers {
			if got, ok := impl.LogsMatch(p.Log, q.Log); !got || !ok {
				t.Error("logs do not match", r)
			}
			if got, _ := plainLogsMatch(p.Log, q.Log); !got {
				t.Error("logs do not match, entry by entry", r)
			}
		}
	}
	leaders := map[int]bool{}
	for _, p := range r.Peers {
		if p.Leads && leaders[p.Term] {
			t.Error("a term has two leaders", r)
		}
		leaders[p.Term] = leaders[p.Term] || p.Leads
		if p.Leads && p.Term == greatest && !beginsWith(p.Log, committed) {
			t.Error("a leader of the greatest term does not have what is committed", r)
		}
		if p.Term > greatest && greatest >= 0 {
			t.Error("a term without a leader", r)
		}
	}
}

// wantCommitKept asks of a step that was done that what was committed is so still,
// that no peer knows less of it, and that no term falls.
func wantCommitKept(t *testing.T, before, after impl.Raft, x impl.RaftStep) {
	t.Helper()
	then, _ := impl.CommittedIn(before)
	now, _ := impl.CommittedIn(after)
	if !beginsWith(now, then) {
		t.Error("what was committed is not", before, x, after)
	}
	for k, p := range after.Peers {
		if p.Commit < before.Peers[k].Commit || p.Term < before.Peers[k].Term {
			t.Error("a peer knows less", before, x, after)
		}
		if !beginsWith(p.Log, before.Peers[k].Log[:before.Peers[k].Commit]) {
			t.Error("a peer lost what it knew to be committed", before, x, after)
		}
	}
}

// raftKey is another one for each raft.
func raftKey(r impl.Raft) string {
	var key []byte
	put := func(numbers ...int) {
		for _, n := range numbers {
			key = append(key, byte(n+1))
		}
	}
	for _, p := range r.Peers {
		put(p.Term, p.Commit, len(p.Log))
		put(p.Match...)
		if p.Leads {
			put(1)
		}
		for _, e := range p.Log {
			put(e.Term, e.Value)
		}
		put(100)
	}
	for _, m := range r.Mail {
		put(m.From, m.To, m.Term, m.Prev, m.PTerm, m.Commit, m.Match, len(m.Entry))
		for _, e := range m.Entry {
			put(e.Term, e.Value)
		}
		if m.Reply {
			put(1)
		}
		put(100)
	}
	return string(key)
}

type fewLimits struct {
	peers, term, long, post int
}

// greatestTerm is that of the peers whose bits a number has.
func greatestTerm(r impl.Raft, bits int) int {
	term := 0
	for k, p := range r.Peers {
		if bits>>k&1 == 1 {
			term = max(term, p.Term)
		}
	}
	return term
}

// fewRaftSteps are the steps that lead on within such limits; each leader proposes
// its own number, so that entries of two are unlike.
func fewRaftSteps(r impl.Raft, few fewLimits) []impl.RaftStep {
	var l []impl.RaftStep
	for k, p := range r.Peers {
		for n := range 1 << few.peers {
			if n>>k&1 == 1 && greatestTerm(r, n) < few.term {
				l = append(l, rfElect(k, n))
			}
		}
		if !p.Leads {
			continue
		}
		if len(p.Log) < few.long {
			l = append(l, rfPropose(k, k))
		}
		for n := range len(p.Log) + 1 {
			l = append(l, rfCommit(k, n))
			for to := range r.Peers {
				if len(r.Mail) < few.post {
					l = append(l, rfSend(k, to, n))
				}
			}
		}
	}
	for k := range r.Mail {
		l = append(l, rfTake(k), rfLose(k))
		if len(r.Mail) < few.post {
			l = append(l, rfTwice(k))
		}
	}
	return l
}

// All rafts that few peers come to in few terms, with few entries and few letters on
// their way at once.
func TestAllFewRafts(t *testing.T) {
	for _, c := range []struct {
		few       fewLimits
		committed int
	}{
		{fewLimits{1, 3, 2, 0}, 2},
		{fewLimits{2, 2, 2, 1}, 2},
		{fewLimits{3, 3, 1, 1}, 1},
	} {
		first, _ := impl.NewRaft(c.few.peers)
		seen := map[string]bool{raftKey(first): true}
		all := []impl.Raft{first}
		most := 0
		for at := 0; at < len(all) && !t.Failed(); at++ {
			r := all[at]
			wantOneLog(t, r)
			committed, _ := impl.CommittedIn(r)
			most = max(most, len(committed))
			for _, x := range fewRaftSteps(r, c.few) {
				got, ok := wantRaftStep(t, "few", r, x)
				if !ok {
					continue
				}
				if key := raftKey(got); !seen[key] {
					wantCommitKept(t, r, got, x)
					seen[key] = true
					all = append(all, got)
				}
			}
		}
		if most != c.committed {
			t.Error("too few are committed", c, most)
		}
	}
}

func TestPlaysHaveOneLog(t *testing.T) {
	r := newRandom()
	committed := 0
	for range 3000 {
		peers := 1 + r.IntN(5)
		l := randomRaftSteps(r, peers, r.IntN(101))
		wantRaftPlay(t, "random", peers, l)
		got, _, ok := impl.PlayRaft(peers, l)
		if !ok {
			t.Fatal(peers, l)
		}
		wantRaft(t, "random", got)
		wantOneLog(t, got)
		some, _ := impl.CommittedIn(got)
		committed += len(some)
	}
	if committed < 3000 {
		t.Error("too few are committed", committed)
	}
}

// Many steps over, so that leaders come and go, cut what others left, and logs and
// terms come to their limits.
func TestLongRunsHaveOneLog(t *testing.T) {
	r := newRandom()
	committed, cut, full, late := 0, 0, 0, 0
	for range 300 {
		now, _ := impl.NewRaft(3 + r.IntN(3))
		for range 600 {
			x := randomRaftStep(r, now)
			next, ok := impl.StepRaft(now, x)
			if !ok {
				continue
			}
			wantCommitKept(t, now, next, x)
			wantOneLog(t, next)
			for k, p := range next.Peers {
				if !beginsWith(p.Log, now.Peers[k].Log) {
					cut++
				}
			}
			now = next
		}
		some, _ := impl.CommittedIn(now)
		committed += len(some)
		for _, p := range now.Peers {
			if len(p.Log) == 30 {
				full++
			}
		}
		if leaders, _ := impl.LeadersIn(now); len(leaders) > 1 {
			late++
		}
	}
	if committed < 1500 || cut < 200 || full == 0 || late == 0 {
		t.Error("not all came to be", committed, cut, full, late)
	}
}

// elderEntry has a peer 0 in the term 3 whose entry of the term 1 two of three
// have, while the peer 1 has one of the term 2, and may lead yet.
func elderEntry() impl.Raft {
	return raftAfter(plainRaft(3),
		rfElect(0, 3), rfPropose(0, 7),
		rfElect(1, 6), rfPropose(1, 8),
		rfElect(0, 5), rfSend(0, 2, 0), rfTake(0), rfTake(0))
}

func TestOnlyEntriesOfItsOwnTermAreCounted(t *testing.T) {
	r := elderEntry()
	if !slices.Equal(r.Peers[0].Match, []int{1, 0, 1}) || r.Peers[0].Term != 3 {
		t.Fatal(r)
	}
	wantNoRaftStep(t, "an entry of an elder term", r, rfCommit(0, 1))
	lost := raftAfter(r, rfElect(1, 6), rfSend(1, 0, 0), rfTake(0), rfSend(1, 2, 0), rfTake(1))
	for k, p := range lost.Peers {
		if !slices.Equal(p.Log, []impl.Entry{{Term: 2, Value: 8}}) {
			t.Error("it goes", k, lost)
		}
	}
	own := raftAfter(r, rfPropose(0, 9), rfSend(0, 2, 1), rfTake(0), rfTake(0))
	wantNoRaftStep(t, "nor with one of its own behind it", own, rfCommit(0, 1))
	wantRaftChanged(t, "both at once", own, rfCommit(0, 2), func(r *impl.Raft) { r.Peers[0].Commit = 2 })
	own = raftAfter(own, rfCommit(0, 2))
	wantNoRaftStep(t, "the other one may lead no more", own, rfElect(1, 6))
	wantNoRaftStep(t, "nor by all", own, rfElect(1, 7))
	wantOneLog(t, own)
}

// An elder leader still leads, and takes what was told to it in its term; what it
// commits so the newer leader has.
func TestAnElderLeaderCommitsWhatTheNewerOneHas(t *testing.T) {
	r, did, ok := impl.PlayRaft(3, []impl.RaftStep{
		rfElect(0, 3), rfPropose(0, 7), rfSend(0, 1, 0), rfTake(0), rfElect(1, 6), rfPropose(1, 8), rfTake(0), rfCommit(0, 1)})
	if !ok || slices.Contains(did, false) || r.Peers[0].Commit != 1 || !r.Peers[0].Leads || r.Peers[0].Term != 1 {
		t.Fatal(r, did, ok)
	}
	if l, ok := impl.LeadersIn(r); !ok || !slices.Equal(l, []int{0, 1}) {
		t.Error(l, ok)
	}
	wantOneLog(t, r)
	r, did, ok = impl.PlayRaft(3, []impl.RaftStep{
		rfElect(0, 3), rfPropose(0, 7), rfSend(0, 1, 0), rfElect(1, 6), rfTake(0)})
	if !ok || slices.Contains(did, false) || len(r.Mail) != 0 || len(r.Peers[1].Log) != 0 {
		t.Error("what comes late is not taken", r, did, ok)
	}
	wantOneLog(t, r)
}

package tests

import (
	"math/rand/v2"
	"slices"
	"testing"

	"loop.example/g00361/impl"
)

// Promise 19 for chapter 10: answers at any arguments, nothing written into an
// argument, no memory shared.

// numbersOfRaft are the places of all numbers of a raft.
func numbersOfRaft(r *impl.Raft) []*int {
	var l []*int
	for i := range r.Peers {
		p := &r.Peers[i]
		l = append(l, &p.Term, &p.Commit)
		for j := range p.Log {
			l = append(l, &p.Log[j].Term, &p.Log[j].Value)
		}
		for j := range p.Match {
			l = append(l, &p.Match[j])
		}
	}
	for i := range r.Mail {
		m := &r.Mail[i]
		l = append(l, &m.From, &m.To, &m.Term, &m.Prev, &m.PTerm, &m.Commit, &m.Match)
		for j := range m.Entry {
			l = append(l, &m.Entry[j].Term, &m.Entry[j].Value)
		}
	}
	return l
}

// oddRafts have an odd number or list at each place where a raft has one.
func oddRafts() []impl.Raft {
	many := make([]impl.Entry, 1<<16)
	l := []impl.Raft{
		{Peers: make([]impl.Peer, 1<<16)},
		{Mail: make([]impl.Mail, 1<<16)},
		{Peers: make([]impl.Peer, 3)},
		{Peers: make([]impl.Peer, 2), Mail: make([]impl.Mail, 2)},
		{Peers: []impl.Peer{{Match: make([]int, 2)}, {}}},
		changedRaft(func(r *impl.Raft) { r.Peers = make([]impl.Peer, 1<<16) }),
		changedRaft(func(r *impl.Raft) { r.Peers = nil }),
		changedRaft(func(r *impl.Raft) { r.Peers = r.Peers[:1] }),
		changedRaft(func(r *impl.Raft) { r.Mail = make([]impl.Mail, 1<<16) }),
	}
	for k := range 3 {
		l = append(l,
			changedRaft(func(r *impl.Raft) { r.Peers[k].Log = many }),
			changedRaft(func(r *impl.Raft) { r.Peers[k].Log = nil }),
			changedRaft(func(r *impl.Raft) { r.Peers[k].Match = make([]int, 1<<16) }),
			changedRaft(func(r *impl.Raft) { r.Peers[k].Leads = !r.Peers[k].Leads }))
	}
	for k := range 4 {
		l = append(l,
			changedRaft(func(r *impl.Raft) { r.Mail[k].Entry = many }),
			changedRaft(func(r *impl.Raft) { r.Mail[k].Entry = many[:2] }),
			changedRaft(func(r *impl.Raft) { r.Mail[k].Reply = !r.Mail[k].Reply }))
	}
	first := replicating()
	for _, n := range append(oddNumbers(), -2, 2, 3, 4, 5, 6, 20, 21, 29, 30, 31, 99, 100, 101) {
		for i := range numbersOfRaft(&first) {
			r := replicating()
			*numbersOfRaft(&r)[i] = n
			l = append(l, r)
		}
		all := replicating()
		for _, p := range numbersOfRaft(&all) {
			*p = n
		}
		l = append(l, all)
	}
	return l
}

func TestAnyRaftIsAnswered(t *testing.T) {
	for _, r := range oddRafts() {
		wantRaft(t, "odd", r)
		for k := -1; k <= 4; k++ {
			for kind := 1; kind <= 7; kind++ {
				wantRaftStep(t, "odd", r, impl.RaftStep{Kind: kind, K: k})
				wantRaftStep(t, "odd", r, impl.RaftStep{Kind: kind, K: k, N: 7})
			}
			wantRaftStep(t, "odd", r, rfSend(k, 1, 1))
			wantRaftStep(t, "odd", r, rfCommit(k, 3))
		}
	}
}

func TestAnyRaftStepIsAnswered(t *testing.T) {
	numbers := append(oddNumbers(), 2, 3, 4, 5, 6, 7)
	var all []impl.RaftStep
	for kind := -1; kind <= 8; kind++ {
		for _, a := range numbers {
			for _, b := range numbers {
				all = append(all, impl.RaftStep{Kind: kind, K: a, N: b}, impl.RaftStep{Kind: kind, K: a, To: b}, impl.RaftStep{Kind: kind, To: a, N: b})
			}
		}
	}
	for _, n := range numbers {
		all = append(all, impl.RaftStep{Kind: n}, impl.RaftStep{Kind: n, K: n, To: n, N: n})
	}
	for _, r := range []impl.Raft{{}, replicating(), plainRaft(1), raftWithPost(5, 20), longLogs(), badRafts()["a Commit of -1"]} {
		for _, x := range all {
			wantRaftStep(t, "odd", r, x)
		}
	}
	for i, x := range all {
		wantRaftPlay(t, "odd", 3, []impl.RaftStep{x, rfElect(0, 3), x, rfPropose(0, 4), x, rfSend(0, 1, 0), all[len(all)-1-i], rfTake(0), x})
	}
	wantRaftPlay(t, "many", 3, make([]impl.RaftStep, 1<<16))
	wantRaftPlay(t, "many good ones", 1, slices.Repeat([]impl.RaftStep{rfElect(0, 1)}, 1<<16))
}

func TestAnyNumbersOfPeersAndPlacesAreAnswered(t *testing.T) {
	for _, n := range append(oddNumbers(), 2, 3, 4, 5, 6, 7) {
		want, wanted := plainNewRaft(n)
		if r, ok := impl.NewRaft(n); ok != wanted || !sameRaft(r, want) {
			t.Error(n, r, ok)
		}
		wantRaftPlay(t, "odd", n, []impl.RaftStep{rfElect(0, 1), rfElect(0, 3), rfElect(0, 7), rfPropose(0, 1)})
		for why, r := range someRafts() {
			for _, m := range oddNumbers() {
				want, wanted := plainEntryAt(r, n, m)
				if e, ok := impl.EntryAt(r, n, m); e != want || ok != wanted {
					t.Error(why, n, m, e, ok)
				}
			}
		}
	}
}

func TestAnyRaftLogsAreAnswered(t *testing.T) {
	odd := [][]impl.Entry{nil, {}, entries(1), entries(0, 100), manyEntries(30, 3), make([]impl.Entry, 1<<16)}
	for _, l := range badRaftLogs() {
		odd = append(odd, l)
	}
	for _, n := range oddNumbers() {
		odd = append(odd, []impl.Entry{{Term: n}}, []impl.Entry{{Value: n}}, []impl.Entry{{Term: 1}, {Term: n, Value: n}})
	}
	for _, a := range odd {
		for _, b := range odd {
			want, wanted := plainLogsMatch(a, b)
			if got, ok := impl.LogsMatch(a, b); got != want || ok != wanted {
				t.Error(len(a), len(b), got, ok)
			}
		}
	}
}

// shiftedRaft changes one number, bool or list of a raft a little.
func shiftedRaft(r *rand.Rand, first impl.Raft) impl.Raft {
	out := copyOfRaft(first)
	p := &out.Peers[r.IntN(len(out.Peers))]
	m := &impl.Mail{}
	if len(out.Mail) > 0 {
		m = &out.Mail[r.IntN(len(out.Mail))]
	}
	e := impl.Entry{Term: r.IntN(8), Value: r.IntN(3)}
	switch r.IntN(10) {
	case 0:
		p.Leads = !p.Leads
	case 1:
		p.Log = append(p.Log, e)
	case 2:
		p.Log = p.Log[:r.IntN(len(p.Log)+1)]
	case 3:
		p.Commit = r.IntN(len(p.Log) + 1)
	case 4:
		p.Match[r.IntN(len(p.Match))] = r.IntN(len(p.Log) + 1)
	case 5:
		m.Reply = !m.Reply
	case 6:
		m.Entry = []impl.Entry{e}
	case 7:
		*m = sent(r.IntN(3), r.IntN(3), r.IntN(8), 1+r.IntN(3), r.IntN(4), r.IntN(5), e)
	default:
		numbers := numbersOfRaft(&out)
		*numbers[r.IntN(len(numbers))] += 1 - 2*r.IntN(2)
	}
	return out
}

func TestRaftsNearToGoodOnesAreAnswered(t *testing.T) {
	r := newRandom()
	good := 0
	for range 1500 {
		near := shiftedRaft(r, randomRaft(r))
		if plainRaftGood(near) {
			good++
		}
		wantRaft(t, "near", near)
		for range 40 {
			wantRaftStep(t, "near", near, randomRaftStep(r, withMatches(near)))
		}
		for k := range near.Mail {
			wantRaftStep(t, "near", near, rfTake(k))
		}
	}
	if good < 300 || good > 1200 {
		t.Error("one kind of rafts alone", good)
	}
}

// withMatches has no number of Match that is below 0.
func withMatches(r impl.Raft) impl.Raft {
	r = copyOfRaft(r)
	for k := range r.Peers {
		for i, n := range r.Peers[k].Match {
			r.Peers[k].Match[i] = max(0, n)
		}
		r.Peers[k].Commit = max(0, r.Peers[k].Commit)
	}
	return r
}

// anyRaft is good by chance alone: peers and letters have nothing to do with each
// other, so that letters cut logs below what is committed, and leaders take letters.
func anyRaft(r *rand.Rand) impl.Raft {
	out := plainRaft(2 + r.IntN(3))
	for k := range out.Peers {
		p := &out.Peers[k]
		p.Term, p.Leads = 2+r.IntN(2), r.IntN(2) == 0
		p.Log = anyEntries(r, p.Term)
		p.Commit = r.IntN(len(p.Log) + 1)
		for i := range p.Match {
			if p.Leads {
				p.Match[i] = r.IntN(len(p.Log) + 1)
			}
		}
	}
	for range 4 {
		from, to := r.IntN(len(out.Peers)), r.IntN(len(out.Peers))
		if from == to {
			continue
		}
		m := reply(from, to, 1+r.IntN(3), r.IntN(5))
		if r.IntN(4) > 0 {
			m = sent(from, to, 1+r.IntN(3), 0, -1, r.IntN(5))
			log := anyEntries(r, m.Term)
			if m.Prev = r.IntN(len(log) + 1); m.Prev > 0 {
				m.PTerm = log[m.Prev-1].Term
			}
			m.Entry = log[m.Prev:min(m.Prev+1, len(log))]
		}
		out.Mail = append(out.Mail, m)
	}
	return out
}

func anyEntries(r *rand.Rand, mostTerm int) []impl.Entry {
	terms := make([]int, r.IntN(5))
	for i := range terms {
		terms[i] = r.IntN(mostTerm + 1)
	}
	slices.Sort(terms)
	return entries(terms...)
}

func TestAnyGoodRaftIsAnswered(t *testing.T) {
	r := newRandom()
	cut := 0
	for range 3000 {
		any := anyRaft(r)
		if !impl.GoodRaft(any) {
			t.Fatal(any)
		}
		wantRaft(t, "any", any)
		for k, m := range any.Mail {
			got, ok := wantRaftStep(t, "any", any, rfTake(k))
			if ok && got.Peers[m.To].Commit < any.Peers[m.To].Commit {
				cut++
			}
		}
		for range 20 {
			wantRaftStep(t, "any", any, randomRaftStep(r, any))
		}
	}
	if cut < 10 {
		t.Error("too few were cut below what they knew", cut)
	}
}

// roomyRaft is the same raft, all its lists with room behind their length, in which
// stands what would be taken for more of them.
func roomyRaft(first impl.Raft) impl.Raft {
	var r impl.Raft
	for _, p := range first.Peers {
		p.Log, _ = roomyList(p.Log, impl.Entry{Term: p.Term, Value: 1}, impl.Entry{Term: -7})
		p.Match, _ = roomyList(p.Match, 0, -7)
		r.Peers = append(r.Peers, p)
	}
	for _, m := range first.Mail {
		m.Entry, _ = roomyList(m.Entry, impl.Entry{Term: m.Term, Value: 1}, impl.Entry{Term: -7})
		r.Mail = append(r.Mail, m)
	}
	r.Peers, _ = roomyList(r.Peers, impl.Peer{Match: make([]int, len(r.Peers)+1)}, impl.Peer{Term: -7})
	r.Mail, _ = roomyList(r.Mail, reply(0, 1, 1, 0), impl.Mail{To: -7})
	return r
}

// memoryOfRaft is a raft with all its lists up to the end of their memory.
func memoryOfRaft(r impl.Raft) impl.Raft {
	r.Peers, r.Mail = slices.Clone(r.Peers[:cap(r.Peers)]), slices.Clone(r.Mail[:cap(r.Mail)])
	for i, p := range r.Peers {
		r.Peers[i].Log, r.Peers[i].Match = p.Log[:cap(p.Log)], p.Match[:cap(p.Match)]
	}
	for i, m := range r.Mail {
		r.Mail[i].Entry = m.Entry[:cap(m.Entry)]
	}
	return r
}

func TestRaftsStayAsTheyAre(t *testing.T) {
	all := badRafts()
	for why, r := range tightRafts() {
		all[why] = r
	}
	for why, first := range all {
		r := roomyRaft(first)
		if !sameRaft(r, first) {
			t.Fatal("the raft with room is not the same", why)
		}
		before := copyOfRaft(memoryOfRaft(r))
		wantRaftSteps(t, why, r)
		if !sameRaft(r, first) || !sameRaft(memoryOfRaft(r), before) {
			t.Error("written into the raft:", why)
		}
	}
}

// What lies behind a log's end in its memory is not written over by what is put
// behind the log.
func TestRaftsThatShareTheirMemoryStayAsTheyAre(t *testing.T) {
	for why, r := range tightRafts() {
		before := copyOfRaft(r)
		wantRaftSteps(t, why, r)
		if !sameRaft(r, before) {
			t.Error("written into the raft:", why)
		}
	}
}

func TestRaftStepsAndLogsStayAsTheyAre(t *testing.T) {
	r := newRandom()
	for many := range 103 {
		peers := 1 + r.IntN(5)
		l, memory := roomyList(randomRaftSteps(r, peers, many), rfElect(0, 1), impl.RaftStep{Kind: -7})
		before := slices.Clone(memory)
		wantRaftPlay(t, "room", peers, l)
		if !slices.Equal(memory, before) {
			t.Error("written into the steps", many)
		}
	}
	for range 300 {
		a, aMemory := roomyList(anyEntries(r, 3), impl.Entry{Term: 3}, impl.Entry{Term: -7})
		b, bMemory := roomyList(anyEntries(r, 3), impl.Entry{Term: 3}, impl.Entry{Term: -7})
		aBefore, bBefore := slices.Clone(aMemory), slices.Clone(bMemory)
		want, _ := plainLogsMatch(a, b)
		if got, ok := impl.LogsMatch(a, b); got != want || !ok {
			t.Error(a, b, got, ok)
		}
		if !slices.Equal(aMemory, aBefore) || !slices.Equal(bMemory, bBefore) {
			t.Error("written into the logs", a, b)
		}
	}
}

// entryLists are all lists of entries of a raft.
func entryLists(r impl.Raft) [][]impl.Entry {
	var l [][]impl.Entry
	for _, p := range r.Peers {
		l = append(l, p.Log)
	}
	for _, m := range r.Mail {
		l = append(l, m.Entry)
	}
	return l
}

func matchLists(r impl.Raft) [][]int {
	var l [][]int
	for _, p := range r.Peers {
		l = append(l, p.Match)
	}
	return l
}

// wantOwnRaft asks that nothing of the answer is of the argument's memory, nor two
// of its lists of one.
func wantOwnRaft(t *testing.T, why string, r impl.Raft, got impl.Raft) {
	t.Helper()
	wantOwnLists(t, why, matchLists(r), matchLists(got))
	if listsShare(r.Peers, got.Peers) || listsShare(r.Mail, got.Mail) {
		t.Error(why, "a list is shared")
	}
	own := entryLists(got)
	for i, l := range own {
		for _, given := range entryLists(r) {
			if listsShare(l, given) {
				t.Error(why, "entries are shared", i)
			}
		}
		for _, other := range own[:i] {
			if listsShare(l, other) {
				t.Error(why, "two lists of entries share", i)
			}
		}
	}
}

// tightRafts are good ones, some of them with lists that are pieces of one memory.
func tightRafts() map[string]impl.Raft {
	all := someRafts()
	log := entries(1, 1, 2, 3)
	zeros := make([]int, 6)
	one := replicating()
	for i := range one.Peers {
		one.Peers[i] = impl.Peer{Term: 4, Leads: true, Log: log[:i+1], Match: zeros[i : i+3]}
	}
	one.Mail = []impl.Mail{sent(0, 1, 4, 2, 1, 0, log[2:3]...), sent(1, 2, 4, 3, 2, 0), sent(2, 0, 4, 1, 1, 0, log[1:2]...), sent(2, 0, 4, 1, 1, 0, log[2:3]...)}
	one.Mail[1].Entry = log[3:3]
	all["one memory for all"] = one
	same := replicating()
	for i := range same.Peers {
		same.Peers[i] = impl.Peer{Term: 3, Log: log, Match: zeros[:3]}
	}
	same.Mail = slices.Repeat([]impl.Mail{sent(0, 1, 3, 1, 1, 0, log[2:3]...)}, 3)
	all["the same lists"] = same
	return all
}

func TestRaftsShareNoMemory(t *testing.T) {
	for why, first := range tightRafts() {
		if !impl.GoodRaft(first) {
			t.Fatal(why)
		}
		for _, r := range []impl.Raft{first, roomyRaft(first)} {
			for _, x := range raftStepsOn(r) {
				if got, ok := impl.StepRaft(r, x); ok {
					wantOwnRaft(t, why, r, got)
				}
			}
			l, _ := impl.CommittedIn(r)
			for _, log := range entryLists(r) {
				if listsShare(l, log) {
					t.Error(why, "what is committed is shared")
				}
			}
		}
	}
	r := newRandom()
	for range 60 {
		peers := 1 + r.IntN(5)
		got, _, _ := impl.PlayRaft(peers, randomRaftSteps(r, peers, 100))
		wantOwnRaft(t, "played", impl.Raft{}, got)
	}
	for peers := 1; peers <= 5; peers++ {
		got, _ := impl.NewRaft(peers)
		wantOwnRaft(t, "new", impl.Raft{}, got)
	}
}

// spoilRaft writes into all of a raft's memory.
func spoilRaft(r impl.Raft) {
	for _, l := range matchLists(r) {
		fill(l)
	}
	for _, l := range entryLists(r) {
		spoilEntries(l)
	}
	for i := range r.Peers[:cap(r.Peers)] {
		r.Peers[:cap(r.Peers)][i] = impl.Peer{Term: -9}
	}
	for i := range r.Mail[:cap(r.Mail)] {
		r.Mail[:cap(r.Mail)][i] = impl.Mail{To: -9}
	}
}

func spoilEntries(l []impl.Entry) {
	for i := range l[:cap(l)] {
		l[:cap(l)][i] = impl.Entry{Term: -9}
	}
}

// What is done to an answer, up to the end of its memory, is not seen in an
// argument, nor in what is answered next.
func TestAnsweredRaftsMayBeWrittenInto(t *testing.T) {
	for why, first := range tightRafts() {
		r := roomyRaft(first)
		before := copyOfRaft(memoryOfRaft(r))
		for range 2 {
			for _, x := range raftStepsOn(r) {
				got, _ := wantRaftStep(t, why, r, x)
				spoilRaft(got)
			}
			l, _ := impl.CommittedIn(r)
			spoilEntries(l)
			leaders, _ := impl.LeadersIn(r)
			fill(leaders)
			wantRaft(t, why, r)
		}
		if !sameRaft(memoryOfRaft(r), before) {
			t.Error("written into the raft:", why)
		}
	}
	l := []impl.RaftStep{rfElect(0, 3), rfPropose(0, 7), rfSend(0, 1, 0), rfTwice(0), rfTake(0), rfTake(1), rfCommit(0, 1)}
	for range 2 {
		r, did, _ := impl.PlayRaft(3, l)
		spoilRaft(r)
		for i := range did[:cap(did)] {
			did[:cap(did)][i] = false
		}
		wantRaftPlay(t, "once more", 3, l)
		fresh, _ := impl.NewRaft(3)
		spoilRaft(fresh)
	}
	TestNewRaft(t)
}

// What is refused hands out nothing, not even an empty list with memory of an
// argument behind it.
func TestRefusedRaftsHandOutNothing(t *testing.T) {
	all := badRafts()
	for why, r := range someRafts() {
		all[why] = r
	}
	for why, first := range all {
		r := roomyRaft(first)
		for _, x := range raftStepsOn(r) {
			if got, ok := impl.StepRaft(r, x); !ok && cap(got.Peers)+cap(got.Mail) != 0 {
				t.Error(why, x, got)
			}
		}
	}
	for why, r := range badRafts() {
		if l, ok := impl.CommittedIn(roomyRaft(r)); ok || cap(l) != 0 {
			t.Error(why, l, ok)
		}
		if l, ok := impl.LeadersIn(roomyRaft(r)); ok || cap(l) != 0 {
			t.Error(why, l, ok)
		}
	}
	for _, peers := range []int{-1, 0, 6} {
		if r, ok := impl.NewRaft(peers); ok || cap(r.Peers)+cap(r.Mail) != 0 {
			t.Error(peers, r, ok)
		}
		if r, did, ok := impl.PlayRaft(peers, make([]impl.RaftStep, 3)); ok || cap(r.Peers)+cap(r.Mail)+cap(did) != 0 {
			t.Error(peers, r, did, ok)
		}
	}
	if r, did, ok := impl.PlayRaft(3, make([]impl.RaftStep, 101)); ok || cap(r.Peers)+cap(r.Mail)+cap(did) != 0 {
		t.Error("one step too many", r, did, ok)
	}
}

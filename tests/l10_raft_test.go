package tests

import (
	"fmt"
	"slices"
	"testing"

	"loop.example/g00361/impl"
)

// Chapter 10, function by function and step by step. What holds in plays stands in
// l10_match_test.go.

// wantRaft holds all answers of a raft but its steps against what the plain words
// tell.
func wantRaft(t *testing.T, why string, r impl.Raft) {
	t.Helper()
	if got, want := impl.GoodRaft(r), plainRaftGood(r); got != want {
		t.Errorf("%s: GoodRaft %v: %v", why, r, got)
	}
	committed, wanted := plainCommitted(r)
	if got, ok := impl.CommittedIn(r); !slices.Equal(got, committed) || ok != wanted {
		t.Errorf("%s: CommittedIn %v: %v %v", why, r, got, ok)
	}
	leaders, wanted := plainLeaders(r)
	if got, ok := impl.LeadersIn(r); !slices.Equal(got, leaders) || ok != wanted {
		t.Errorf("%s: LeadersIn %v: %v %v", why, r, got, ok)
	}
	for peer := -1; peer <= 5; peer++ {
		for _, at := range []int{-1, 0, 1, 2, 3, 4, 28, 29, 30, 31} {
			want, wanted := plainEntryAt(r, peer, at)
			if got, ok := impl.EntryAt(r, peer, at); got != want || ok != wanted {
				t.Errorf("%s: EntryAt %v %d %d: %v %v", why, r, peer, at, got, ok)
			}
		}
	}
}

// wantRaftStep does so of a step, and tells where it leads.
func wantRaftStep(t *testing.T, why string, r impl.Raft, x impl.RaftStep) (impl.Raft, bool) {
	t.Helper()
	want, wanted := plainRaftStep(r, x)
	got, ok := impl.StepRaft(r, x)
	if !sameRaft(got, want) || ok != wanted {
		t.Errorf("%s: StepRaft %v %v: %v %v", why, r, x, got, ok)
	}
	if ok && !impl.GoodRaft(got) {
		t.Errorf("%s: StepRaft %v %v: not good: %v", why, r, x, got)
	}
	return got, ok
}

func wantRaftSteps(t *testing.T, why string, r impl.Raft) {
	t.Helper()
	wantRaft(t, why, r)
	for _, x := range raftStepsOn(r) {
		wantRaftStep(t, why, r, x)
	}
}

// wantRaftChanged asks of a step that it leads to a raft as the change tells.
func wantRaftChanged(t *testing.T, why string, r impl.Raft, x impl.RaftStep, change func(r *impl.Raft)) {
	t.Helper()
	want := copyOfRaft(r)
	change(&want)
	if got, ok := impl.StepRaft(r, x); !ok || !sameRaft(got, want) {
		t.Errorf("%s: StepRaft %v %v: %v %v", why, r, x, got, ok)
	}
}

// wantNoRaftStep asks that nothing is handed out of a step of a good raft.
func wantNoRaftStep(t *testing.T, why string, r impl.Raft, x impl.RaftStep) {
	t.Helper()
	if !impl.GoodRaft(r) {
		t.Errorf("%s: not good: %v", why, r)
	}
	if got, ok := impl.StepRaft(r, x); ok || !sameRaft(got, impl.Raft{}) {
		t.Errorf("%s: StepRaft %v %v: %v %v", why, r, x, got, ok)
	}
}

func wantRaftPlay(t *testing.T, why string, peers int, l []impl.RaftStep) {
	t.Helper()
	want, wantDid, wanted := plainRaftPlay(peers, l)
	got, did, ok := impl.PlayRaft(peers, l)
	if !sameRaft(got, want) || !slices.Equal(did, wantDid) || ok != wanted {
		t.Errorf("%s: PlayRaft %d %v: %v %v %v", why, peers, l, got, did, ok)
	}
}

func TestTheNamedNumbersOfRafts(t *testing.T) {
	got := []int{impl.MaxRaftSteps, impl.MaxRaftLog, impl.RfElect, impl.RfPropose, impl.RfSend, impl.RfTake, impl.RfLose, impl.RfTwice, impl.RfCommit}
	if !slices.Equal(got, []int{100, 30, 1, 2, 3, 4, 5, 6, 7}) {
		t.Error(got)
	}
}

func TestNewRaft(t *testing.T) {
	for peers := 1; peers <= 5; peers++ {
		r, ok := impl.NewRaft(peers)
		if !ok || len(r.Peers) != peers || len(r.Mail) != 0 || !impl.GoodRaft(r) {
			t.Error(peers, r, ok)
		}
		for k, p := range r.Peers {
			if p.Term != 0 || p.Leads || len(p.Log) != 0 || p.Commit != 0 || !slices.Equal(p.Match, make([]int, peers)) {
				t.Error(peers, k, p)
			}
		}
	}
	for _, peers := range []int{-1, 0, 6, 7} {
		if r, ok := impl.NewRaft(peers); ok || !sameRaft(r, impl.Raft{}) {
			t.Error(peers, r, ok)
		}
	}
}

func sent(from, to, term, prev, pterm, commit int, e ...impl.Entry) impl.Mail {
	return impl.Mail{From: from, To: to, Term: term, Prev: prev, PTerm: pterm, Entry: e, Commit: commit}
}

func reply(from, to, term, match int) impl.Mail {
	return impl.Mail{Reply: true, From: from, To: to, Term: term, Match: match}
}

// replicating is a raft of three, of whom one leads in an elder term, and one leads,
// sends what it has, and was told of some of it.
func replicating() impl.Raft {
	return impl.Raft{
		Peers: []impl.Peer{
			{Term: 4, Leads: true, Log: entries(1, 1, 4), Commit: 2, Match: []int{3, 2, 0}},
			{Term: 4, Log: entries(1, 1), Commit: 1, Match: []int{0, 0, 0}},
			{Term: 3, Leads: true, Log: entries(1, 2, 3, 3), Commit: 1, Match: []int{0, 1, 4}},
		},
		Mail: []impl.Mail{
			sent(0, 1, 4, 2, 1, 2, impl.Entry{Term: 4, Value: 2}),
			sent(0, 2, 4, 0, -1, 2, impl.Entry{Term: 1, Value: 0}),
			sent(2, 1, 3, 4, 3, 0),
			reply(1, 0, 4, 3),
		},
	}
}

func changedRaft(change func(r *impl.Raft)) impl.Raft {
	r := replicating()
	change(&r)
	return r
}

// raftWithPost is a raft of so many peers, of whom 0 leads with an entry, and as many
// letters.
func raftWithPost(peers, letters int) impl.Raft {
	r := plainRaft(peers)
	r.Peers[0] = impl.Peer{Term: 1, Leads: true, Log: entries(1), Match: make([]int, peers)}
	r.Mail = slices.Repeat([]impl.Mail{sent(0, 1, 1, 0, -1, 0, impl.Entry{Term: 1})}, letters)
	return r
}

func someRafts() map[string]impl.Raft {
	all := map[string]impl.Raft{
		"new, of one":          plainRaft(1),
		"new, of two":          plainRaft(2),
		"new, of five":         plainRaft(5),
		"replicating":          replicating(),
		"one who leads alone":  raftAfter(plainRaft(1), rfElect(0, 1), rfPropose(0, 99), rfCommit(0, 1)),
		"an elder entry":       elderEntry(),
		"as many letters":      raftWithPost(2, 20),
		"as many but one":      raftWithPost(2, 19),
		"as many, of five":     raftWithPost(5, 20),
		"all at the last term": atLastTerm(),
		"logs of all lengths":  longLogs(),
	}
	for why, change := range goodRaftChanges() {
		all[why] = changedRaft(change)
	}
	return all
}

func atLastTerm() impl.Raft {
	r := plainRaft(3)
	for k := range r.Peers {
		r.Peers[k].Term, r.Peers[k].Log = 100, entries(0, 100)
	}
	r.Peers[1].Leads, r.Peers[1].Match = true, []int{2, 2, 0}
	return r
}

// manyEntries are so many of one term.
func manyEntries(many, term int) []impl.Entry {
	return slices.Repeat([]impl.Entry{{Term: term, Value: 99}}, many)
}

func longLogs() impl.Raft {
	r := plainRaft(4)
	r.Peers[0] = impl.Peer{Term: 7, Leads: true, Log: manyEntries(30, 7), Commit: 30, Match: []int{30, 29, 0, 30}}
	r.Peers[1] = impl.Peer{Term: 7, Log: manyEntries(29, 7), Commit: 29, Match: make([]int, 4)}
	r.Peers[3] = impl.Peer{Term: 8, Leads: true, Log: manyEntries(30, 7), Commit: 0, Match: make([]int, 4)}
	r.Mail = []impl.Mail{sent(0, 1, 7, 29, 7, 30, impl.Entry{Term: 7}), sent(0, 1, 7, 30, 7, 30), reply(1, 0, 7, 30)}
	return r
}

// goodRaftChanges each leave replicating good.
func goodRaftChanges() map[string]func(r *impl.Raft) {
	first := impl.Entry{Term: 4, Value: 5}
	return map[string]func(r *impl.Raft){
		"a Term of 0":                       func(r *impl.Raft) { r.Peers[1] = impl.Peer{Match: make([]int, 3)} },
		"a Term of MaxTerm":                 func(r *impl.Raft) { r.Peers[1].Term = 100 },
		"a leader's Term of MaxTerm":        func(r *impl.Raft) { r.Peers[0].Term = 100 },
		"a Term far above its entries":      func(r *impl.Raft) { r.Peers[2].Term = 99 },
		"no entries":                        func(r *impl.Raft) { r.Peers[1].Log, r.Peers[1].Commit = nil, 0 },
		"as many entries":                   func(r *impl.Raft) { r.Peers[1].Log = manyEntries(30, 4) },
		"as many but one":                   func(r *impl.Raft) { r.Peers[1].Log = manyEntries(29, 4) },
		"an entry of Term 0":                func(r *impl.Raft) { r.Peers[1].Log = entries(0, 4) },
		"a Value of 0":                      func(r *impl.Raft) { r.Peers[1].Log[1].Value = 0 },
		"a Value of 99":                     func(r *impl.Raft) { r.Peers[1].Log[1].Value = 99 },
		"a Commit of 0":                     func(r *impl.Raft) { r.Peers[0].Commit = 0 },
		"a Commit of all":                   func(r *impl.Raft) { r.Peers[0].Commit, r.Peers[1].Commit = 3, 2 },
		"nobody leads":                      func(r *impl.Raft) { *r = withoutLeaders(*r) },
		"leads, a Match of all 0":           func(r *impl.Raft) { r.Peers[0].Match = []int{0, 0, 0} },
		"leads, a Match of all":             func(r *impl.Raft) { r.Peers[0].Match = []int{3, 3, 3} },
		"leads, its own Match is less":      func(r *impl.Raft) { r.Peers[0].Match[0] = 1 },
		"two lead in a term":                func(r *impl.Raft) { r.Peers[1].Leads = true },
		"all lead in a term":                func(r *impl.Raft) { r.Peers[1].Leads, r.Peers[2].Term = true, 4 },
		"no letters":                        func(r *impl.Raft) { r.Mail = nil },
		"as many letters of this":           func(r *impl.Raft) { r.Mail = slices.Repeat(r.Mail, 5) },
		"a letter of Term 0":                func(r *impl.Raft) { r.Mail[0] = sent(0, 1, 0, 0, -1, 0) },
		"a letter of MaxTerm":               func(r *impl.Raft) { r.Mail[0].Term = 100 },
		"a letter above From's Term":        func(r *impl.Raft) { r.Mail[1].Term = 5 },
		"a reply of Term 0":                 func(r *impl.Raft) { r.Mail[3].Term = 0 },
		"a reply of MaxTerm":                func(r *impl.Raft) { r.Mail[3].Term = 100 },
		"a reply with a Match of 0":         func(r *impl.Raft) { r.Mail[3].Match = 0 },
		"a reply with a Match of 30":        func(r *impl.Raft) { r.Mail[3].Match = 30 },
		"a letter without an entry":         func(r *impl.Raft) { r.Mail[0].Entry = nil },
		"a letter at 0 without one":         func(r *impl.Raft) { r.Mail[1].Entry = []impl.Entry{} },
		"a Prev of 1":                       func(r *impl.Raft) { r.Mail[0].Prev = 1 },
		"a Prev of MaxRaftLog":              func(r *impl.Raft) { r.Mail[0].Prev = 30 },
		"a letter's Commit of 0":            func(r *impl.Raft) { r.Mail[0].Commit = 0 },
		"a letter's Commit of 30":           func(r *impl.Raft) { r.Mail[0].Commit = 30 },
		"a PTerm of 0":                      func(r *impl.Raft) { r.Mail[0].PTerm = 0 },
		"a PTerm of its Term":               func(r *impl.Raft) { r.Mail[0].PTerm = 4 },
		"an entry of its Term":              func(r *impl.Raft) { r.Mail[1].Entry[0] = first },
		"an entry of PTerm":                 func(r *impl.Raft) { r.Mail[0].Entry[0].Term = 1 },
		"a letter's entry of Term 0":        func(r *impl.Raft) { r.Mail[1].Entry[0].Term = 0 },
		"a letter's Value of 0":             func(r *impl.Raft) { r.Mail[0].Entry[0].Value = 0 },
		"a letter's Value of 99":            func(r *impl.Raft) { r.Mail[0].Entry[0].Value = 99 },
		"a letter of what From has not":     func(r *impl.Raft) { r.Mail[0] = sent(1, 2, 100, 30, 100, 30, impl.Entry{Term: 100, Value: 99}) },
		"a letter to one who leads with it": func(r *impl.Raft) { r.Mail[0] = sent(1, 0, 4, 1, 1, 3, first) },
		"a letter that cuts one who leads":  func(r *impl.Raft) { r.Mail[0] = sent(1, 0, 4, 0, -1, 0, first) },
		"a letter that cuts below Commit":   func(r *impl.Raft) { r.Mail[0] = sent(2, 1, 4, 0, -1, 0, first) },
		"a reply of more than there is":     func(r *impl.Raft) { r.Mail[3].Match = 4 },
		"a reply from one not led":          func(r *impl.Raft) { r.Mail[3] = reply(0, 2, 3, 2) },
	}
}

func withoutLeaders(r impl.Raft) impl.Raft {
	for k := range r.Peers {
		r.Peers[k].Leads, r.Peers[k].Match = false, make([]int, len(r.Peers))
	}
	return r
}

func badRafts() map[string]impl.Raft {
	all := map[string]impl.Raft{
		"nothing at all":            {},
		"no peer":                   plainRaft(0),
		"six peers":                 plainRaft(6),
		"one letter too many":       raftWithPost(2, 21),
		"one too many, of five":     raftWithPost(5, 21),
		"one peer with a letter":    {Peers: plainRaft(1).Peers, Mail: []impl.Mail{sent(0, 0, 0, 0, -1, 0)}},
		"one peer with a reply":     {Peers: plainRaft(1).Peers, Mail: []impl.Mail{{Reply: true}}},
		"no peer, a letter":         {Mail: []impl.Mail{sent(0, 1, 0, 0, -1, 0)}},
		"peers without their Match": {Peers: make([]impl.Peer, 2)},
	}
	for why, change := range badRaftChanges() {
		all[why] = changedRaft(change)
	}
	for why, l := range badRaftLogs() {
		for k := range 3 {
			all[fmt.Sprint("a log ", k, ": ", why)] = changedRaft(func(r *impl.Raft) {
				r.Peers[k] = impl.Peer{Term: 100, Log: l, Match: make([]int, 3)}
			})
		}
	}
	return all
}

// badRaftLogs are good in no peer.
func badRaftLogs() map[string][]impl.Entry {
	return map[string][]impl.Entry{
		"one entry too many":       manyEntries(31, 4),
		"many too many":            manyEntries(300, 4),
		"Terms that fall":          entries(1, 2, 1),
		"Terms that fall at once":  entries(2, 1),
		"Terms that fall later":    entries(0, 1, 2, 3, 3, 2),
		"a Term below 0":           entries(-1),
		"a Term below 0, then one": entries(-1, 4),
		"a Term above MaxTerm":     entries(1, 101),
		"a Value of -1":            {{Term: 1, Value: -1}},
		"a Value of 100":           {{Term: 1, Value: 100}},
		"the last Value of 100":    {{Term: 1, Value: 99}, {Term: 1, Value: 100}},
	}
}

// badRaftChanges each spoil replicating by one thing.
func badRaftChanges() map[string]func(r *impl.Raft) {
	all := map[string]func(r *impl.Raft){
		"a Term of -1":                    func(r *impl.Raft) { r.Peers[1] = impl.Peer{Term: -1, Match: make([]int, 3)} },
		"a Term above MaxTerm":            func(r *impl.Raft) { r.Peers[1].Term = 101 },
		"the last Term above":             func(r *impl.Raft) { r.Peers[2].Term = 101 },
		"an entry above the peer's Term":  func(r *impl.Raft) { r.Peers[1].Log[1].Term = 5 },
		"an entry above the leader's":     func(r *impl.Raft) { r.Peers[2].Term = 2 },
		"a Commit of -1":                  func(r *impl.Raft) { r.Peers[1].Commit = -1 },
		"a Commit of one more":            func(r *impl.Raft) { r.Peers[1].Commit = 3 },
		"a leader's Commit of one more":   func(r *impl.Raft) { r.Peers[0].Commit = 4 },
		"a Commit of no entries":          func(r *impl.Raft) { r.Peers[1].Log = nil },
		"a Match of a peer less":          func(r *impl.Raft) { r.Peers[1].Match = make([]int, 2) },
		"a Match of a peer more":          func(r *impl.Raft) { r.Peers[1].Match = make([]int, 4) },
		"a Match of none":                 func(r *impl.Raft) { r.Peers[1].Match = nil },
		"leads, a Match of a peer less":   func(r *impl.Raft) { r.Peers[0].Match = []int{3, 2} },
		"leads, a Match of a peer more":   func(r *impl.Raft) { r.Peers[0].Match = []int{3, 2, 0, 0} },
		"leads, a Match of none":          func(r *impl.Raft) { r.Peers[0].Match = nil },
		"leads, a Match of -1":            func(r *impl.Raft) { r.Peers[0].Match[2] = -1 },
		"leads, a Match of one more":      func(r *impl.Raft) { r.Peers[0].Match[1] = 4 },
		"leads, its own is one more":      func(r *impl.Raft) { r.Peers[0].Match[0] = 4 },
		"does not lead, a Match":          func(r *impl.Raft) { r.Peers[1].Match[0] = 1 },
		"does not lead, its own Match":    func(r *impl.Raft) { r.Peers[1].Match[1] = 2 },
		"does not lead, a Match of -1":    func(r *impl.Raft) { r.Peers[1].Match[2] = -1 },
		"no more leads, Match stays":      func(r *impl.Raft) { r.Peers[0].Leads = false },
		"a peer less":                     func(r *impl.Raft) { r.Peers = r.Peers[:2] },
		"a peer more":                     func(r *impl.Raft) { r.Peers = append(r.Peers, r.Peers[1]) },
		"one letter too many":             func(r *impl.Raft) { r.Mail = slices.Repeat(r.Mail, 6)[:21] },
		"a reply with a Match of -1":      func(r *impl.Raft) { r.Mail[3].Match = -1 },
		"a reply with a Match of 31":      func(r *impl.Raft) { r.Mail[3].Match = 31 },
		"a reply with a Prev":             func(r *impl.Raft) { r.Mail[3].Prev = 1 },
		"a reply with a PTerm":            func(r *impl.Raft) { r.Mail[3].PTerm = 1 },
		"a reply with a PTerm of -1":      func(r *impl.Raft) { r.Mail[3].PTerm = -1 },
		"a reply with an entry":           func(r *impl.Raft) { r.Mail[3].Entry = []impl.Entry{{}} },
		"a reply with a Commit":           func(r *impl.Raft) { r.Mail[3].Commit = 1 },
		"a letter with a Match":           func(r *impl.Raft) { r.Mail[0].Match = 1 },
		"a letter with a Match of -1":     func(r *impl.Raft) { r.Mail[0].Match = -1 },
		"the last letter with a Match":    func(r *impl.Raft) { r.Mail[2].Match = 1 },
		"a Prev of -1":                    func(r *impl.Raft) { r.Mail[0].Prev = -1 },
		"a Prev of -1, a PTerm of -1":     func(r *impl.Raft) { r.Mail[1].Prev = -1 },
		"a Prev of 31":                    func(r *impl.Raft) { r.Mail[0].Prev = 31 },
		"a letter's Commit of -1":         func(r *impl.Raft) { r.Mail[0].Commit = -1 },
		"a letter's Commit of 31":         func(r *impl.Raft) { r.Mail[0].Commit = 31 },
		"a PTerm of -1 where Prev is not": func(r *impl.Raft) { r.Mail[0].PTerm = -1 },
		"a PTerm of -2 where Prev is not": func(r *impl.Raft) { r.Mail[0].PTerm = -2 },
		"a PTerm of 0 where Prev is":      func(r *impl.Raft) { r.Mail[1].PTerm = 0 },
		"a PTerm of 1 where Prev is":      func(r *impl.Raft) { r.Mail[1].PTerm = 1 },
		"a PTerm of -2 where Prev is":     func(r *impl.Raft) { r.Mail[1].PTerm = -2 },
		"a PTerm above its Term":          func(r *impl.Raft) { r.Mail[2].PTerm = 4 },
		"a PTerm above, with an entry":    func(r *impl.Raft) { r.Mail[0].PTerm, r.Mail[0].Entry[0].Term = 5, 5 },
		"two entries":                     func(r *impl.Raft) { r.Mail[0].Entry = entries(4, 4) },
		"an entry above its Term":         func(r *impl.Raft) { r.Mail[0].Entry[0].Term = 5 },
		"an entry below PTerm":            func(r *impl.Raft) { r.Mail[0].Entry[0].Term = 0 },
		"an entry of Term -1":             func(r *impl.Raft) { r.Mail[1].Entry[0].Term = -1 },
		"an entry with a Value of -1":     func(r *impl.Raft) { r.Mail[0].Entry[0].Value = -1 },
		"an entry with a Value of 100":    func(r *impl.Raft) { r.Mail[0].Entry[0].Value = 100 },
	}
	for k := range 4 {
		for why, change := range badMail() {
			all[fmt.Sprint("letter ", k, ": ", why)] = func(r *impl.Raft) { change(&r.Mail[k]) }
		}
	}
	return all
}

// badMail each spoil any letter of replicating by one thing.
func badMail() map[string]func(m *impl.Mail) {
	return map[string]func(m *impl.Mail){
		"to itself":             func(m *impl.Mail) { m.To = m.From },
		"from whom it is to":    func(m *impl.Mail) { m.From = m.To },
		"to one not there":      func(m *impl.Mail) { m.To = 3 },
		"to -1":                 func(m *impl.Mail) { m.To = -1 },
		"from one not there":    func(m *impl.Mail) { m.From = 3 },
		"from -1":               func(m *impl.Mail) { m.From = -1 },
		"between two not there": func(m *impl.Mail) { m.From, m.To = 3, 4 },
		"a Term of -1":          func(m *impl.Mail) { m.Term = -1 },
		"a Term above MaxTerm":  func(m *impl.Mail) { m.Term = 101 },
		"the other kind":        func(m *impl.Mail) { m.Reply, m.PTerm, m.Match = !m.Reply, 1, 1 },
	}
}

func TestGoodRafts(t *testing.T) {
	for why, r := range someRafts() {
		if !impl.GoodRaft(r) {
			t.Error(why, r)
		}
		wantRaftSteps(t, why, r)
	}
}

func TestBadRafts(t *testing.T) {
	for why, r := range badRafts() {
		if impl.GoodRaft(r) {
			t.Error(why, r)
		}
		wantRaft(t, why, r)
		for _, x := range raftStepsOn(r) {
			if got, ok := impl.StepRaft(r, x); ok || !sameRaft(got, impl.Raft{}) {
				t.Error(why, x, got, ok)
			}
		}
		if l, ok := impl.CommittedIn(r); ok || len(l) != 0 {
			t.Error(why, l, ok)
		}
		if l, ok := impl.LeadersIn(r); ok || len(l) != 0 {
			t.Error(why, l, ok)
		}
		if e, ok := impl.EntryAt(r, 0, 0); ok || e != (impl.Entry{}) {
			t.Error(why, e, ok)
		}
	}
}

func TestRaftElect(t *testing.T) {
	wantRaftChanged(t, "of new ones", plainRaft(3), rfElect(1, 6), func(r *impl.Raft) {
		r.Peers[1].Term, r.Peers[1].Leads, r.Peers[2].Term = 1, true, 1
	})
	wantRaftChanged(t, "of all new ones", plainRaft(3), rfElect(1, 7), func(r *impl.Raft) {
		r.Peers[0].Term, r.Peers[1].Term, r.Peers[1].Leads, r.Peers[2].Term = 1, 1, true, 1
	})
	wantRaftChanged(t, "one alone", plainRaft(1), rfElect(0, 1), func(r *impl.Raft) {
		r.Peers[0].Term, r.Peers[0].Leads = 1, true
	})
	wantRaftChanged(t, "one who leads, once more", replicating(), rfElect(0, 3), func(r *impl.Raft) {
		r.Peers[0].Term, r.Peers[0].Match, r.Peers[1].Term = 5, []int{3, 0, 0}, 5
	})
	wantRaftChanged(t, "one who led does not", replicating(), rfElect(0, 5), func(r *impl.Raft) {
		r.Peers[0].Term, r.Peers[0].Match = 5, []int{3, 0, 0}
		r.Peers[2].Term, r.Peers[2].Leads, r.Peers[2].Match = 5, false, make([]int, 3)
	})
	wantRaftChanged(t, "an elder leader, in a term above all of theirs", replicating(), rfElect(2, 6), func(r *impl.Raft) {
		r.Peers[2].Term, r.Peers[2].Match, r.Peers[1].Term = 5, []int{0, 0, 4}, 5
	})
	wantNoRaftStep(t, "one behind", replicating(), rfElect(1, 3))
	wantNoRaftStep(t, "one behind another", replicating(), rfElect(2, 5))
	for _, k := range []int{-1, 3, 4, 5} {
		for n := range 8 {
			wantNoRaftStep(t, "one who is not there", replicating(), rfElect(k, n))
		}
	}
}

// Its term is above those of the ones that are asked, not above all others.
func TestRaftElectInATermOfTheirs(t *testing.T) {
	r := plainRaft(5)
	for k, term := range []int{3, 9, 4, 50, 1} {
		r.Peers[k].Term = term
	}
	for n, term := range map[int]int{0b10101: 5, 0b00111: 10, 0b11111: 51, 0b11100: 51} {
		k := 2
		got, ok := wantRaftStep(t, "terms", r, rfElect(k, n))
		if !ok {
			t.Fatal(n)
		}
		for i, p := range got.Peers {
			want := r.Peers[i].Term
			if n>>i&1 == 1 {
				want = term
			}
			if p.Term != want || p.Leads != (i == k) {
				t.Error(n, i, p)
			}
		}
	}
}

func TestRaftElectByMoreThanHalf(t *testing.T) {
	for peers := 1; peers <= 5; peers++ {
		r := plainRaft(peers)
		for k := range peers {
			for n := -2; n <= 1<<(peers+1); n++ {
				votes, own := 0, n >= 0 && n>>k&1 == 1
				for i := range peers {
					votes += n >> i & 1
				}
				want := n >= 0 && n < 1<<peers && own && 2*votes > peers
				if got, ok := wantRaftStep(t, "votes", r, rfElect(k, n)); ok != want || ok && !got.Peers[k].Leads {
					t.Error(peers, k, n, got, ok)
				}
			}
		}
	}
	wantNoRaftStep(t, "just half of two", plainRaft(2), rfElect(0, 1))
	wantNoRaftStep(t, "just half of four", plainRaft(4), rfElect(0, 3))
	wantNoRaftStep(t, "without K", plainRaft(3), rfElect(0, 6))
	wantNoRaftStep(t, "nobody", plainRaft(1), rfElect(0, 0))
	wantNoRaftStep(t, "a bit of one not there", plainRaft(3), rfElect(0, 8+3))
	wantNoRaftStep(t, "a bit of one far away", plainRaft(5), rfElect(0, 1<<62+31))
	wantNoRaftStep(t, "all bits", plainRaft(5), rfElect(0, -1))
}

func TestRaftElectOfLogsUpToDate(t *testing.T) {
	for _, c := range []struct {
		why       string
		own, that []impl.Entry
		done      bool
	}{
		{"both without entries", nil, nil, true},
		{"the same", entries(1, 2), entries(1, 2), true},
		{"as many, the same last term", entries(0, 2), entries(1, 2), true},
		{"unlike Values alone", []impl.Entry{{Term: 2, Value: 1}}, []impl.Entry{{Term: 2, Value: 90}}, true},
		{"one more", entries(1, 2, 2), entries(1, 2), true},
		{"one fewer", entries(1, 2), entries(1, 2, 2), false},
		{"a greater last term, fewer", entries(3), entries(1, 2, 2), true},
		{"a lesser last term, more", entries(1, 1, 1), entries(2), false},
		{"none, the other one of Term 0", nil, entries(0), false},
		{"one of Term 0, the other none", entries(0), nil, true},
		{"as many as may be", manyEntries(30, 4), manyEntries(30, 4), true},
		{"as many as may be, one fewer", manyEntries(29, 4), manyEntries(30, 4), false},
	} {
		r := plainRaft(3)
		r.Peers[1] = impl.Peer{Term: 4, Log: c.own, Match: make([]int, 3)}
		r.Peers[2] = impl.Peer{Term: 4, Log: c.that, Match: make([]int, 3)}
		if _, ok := wantRaftStep(t, c.why, r, rfElect(1, 6)); ok != c.done {
			t.Error(c.why, ok)
		}
		if _, ok := wantRaftStep(t, c.why, r, rfElect(1, 7)); ok != c.done {
			t.Error(c.why, "of all", ok)
		}
		if _, ok := wantRaftStep(t, c.why, r, rfElect(1, 3)); !ok {
			t.Error(c.why, "the other one is not asked", ok)
		}
	}
}

func TestRaftElectUpToMaxTerm(t *testing.T) {
	r := plainRaft(3)
	r.Peers[1].Term = 99
	wantRaftChanged(t, "the last term", r, rfElect(0, 3), func(r *impl.Raft) {
		r.Peers[0].Term, r.Peers[0].Leads, r.Peers[1].Term = 100, true, 100
	})
	r.Peers[1].Term = 100
	wantNoRaftStep(t, "at MaxTerm", r, rfElect(0, 3))
	wantNoRaftStep(t, "itself at MaxTerm", r, rfElect(1, 3))
	wantRaftChanged(t, "one at MaxTerm is not asked", r, rfElect(0, 5), func(r *impl.Raft) {
		r.Peers[0].Term, r.Peers[0].Leads, r.Peers[2].Term = 1, true, 1
	})
}

func TestRaftPropose(t *testing.T) {
	for _, value := range []int{0, 1, 50, 99} {
		wantRaftChanged(t, "a Value", replicating(), rfPropose(0, value), func(r *impl.Raft) {
			r.Peers[0].Log = append(r.Peers[0].Log, impl.Entry{Term: 4, Value: value})
			r.Peers[0].Match[0] = 4
		})
		wantNoRaftStep(t, "one that does not lead", replicating(), rfPropose(1, value))
	}
	wantRaftChanged(t, "an elder leader", replicating(), rfPropose(2, 6), func(r *impl.Raft) {
		r.Peers[2].Log = append(r.Peers[2].Log, impl.Entry{Term: 3, Value: 6})
		r.Peers[2].Match[2] = 5
	})
	for _, value := range []int{-1, 100, 101} {
		wantNoRaftStep(t, "no Value", replicating(), rfPropose(0, value))
	}
	for _, k := range []int{-1, 3, 4, 5} {
		wantNoRaftStep(t, "one who is not there", replicating(), rfPropose(k, 5))
	}
	full := changedRaft(func(r *impl.Raft) { r.Peers[0].Log, r.Peers[0].Match[0] = manyEntries(29, 4), 29 })
	wantRaftChanged(t, "the last room", full, rfPropose(0, 99), func(r *impl.Raft) {
		r.Peers[0].Log, r.Peers[0].Match[0] = manyEntries(30, 4), 30
	})
	wantNoRaftStep(t, "no room", longLogs(), rfPropose(0, 1))
}

func TestRaftSend(t *testing.T) {
	for n, m := range []impl.Mail{
		sent(0, 2, 4, 0, -1, 2, impl.Entry{Term: 1, Value: 0}),
		sent(0, 2, 4, 1, 1, 2, impl.Entry{Term: 1, Value: 1}),
		sent(0, 2, 4, 2, 1, 2, impl.Entry{Term: 4, Value: 2}),
		sent(0, 2, 4, 3, 4, 2),
	} {
		wantRaftChanged(t, "what lies there", replicating(), rfSend(0, 2, n), func(r *impl.Raft) { r.Mail = append(r.Mail, m) })
	}
	wantRaftChanged(t, "an elder leader", replicating(), rfSend(2, 0, 4), func(r *impl.Raft) {
		r.Mail = append(r.Mail, sent(2, 0, 3, 4, 3, 1))
	})
	wantRaftChanged(t, "one without entries", raftAfter(plainRaft(2), rfElect(0, 3)), rfSend(0, 1, 0), func(r *impl.Raft) {
		r.Mail = []impl.Mail{sent(0, 1, 1, 0, -1, 0)}
	})
	wantRaftChanged(t, "the end of a full log", longLogs(), rfSend(0, 2, 30), func(r *impl.Raft) {
		r.Mail = append(r.Mail, sent(0, 2, 7, 30, 7, 30))
	})
	for _, n := range []int{-1, 4, 5, 30, 31} {
		wantNoRaftStep(t, "behind the end", replicating(), rfSend(0, 2, n))
	}
	for _, to := range []int{-1, 0, 3, 4, 5} {
		wantNoRaftStep(t, "to itself, or one who is not there", replicating(), rfSend(0, to, 0))
	}
	wantNoRaftStep(t, "one that does not lead", replicating(), rfSend(1, 0, 0))
	for _, k := range []int{-1, 3, 5} {
		wantNoRaftStep(t, "one who is not there", replicating(), rfSend(k, 1, 0))
	}
	for letters := range 21 {
		r := raftWithPost(3, letters)
		if letters == 20 {
			wantNoRaftStep(t, "no room", r, rfSend(0, 2, 1))
			continue
		}
		wantRaftChanged(t, "room", r, rfSend(0, 2, 1), func(r *impl.Raft) { r.Mail = append(r.Mail, sent(0, 2, 1, 1, 1, 0)) })
	}
}

// oneTo is a raft of three in which a letter comes to the peer 1.
func oneTo(p impl.Peer, m impl.Mail) impl.Raft {
	r := plainRaft(3)
	if p.Match == nil {
		p.Match = make([]int, 3)
	}
	r.Peers[1] = p
	r.Mail = []impl.Mail{sent(2, 0, 0, 0, -1, 0), m, reply(0, 2, 0, 0)}
	return r
}

// wantTaken asks how the peer is behind the letter, and what goes back.
func wantTaken(t *testing.T, why string, p impl.Peer, m impl.Mail, after impl.Peer, back ...impl.Mail) {
	t.Helper()
	wantRaftChanged(t, why, oneTo(p, m), rfTake(1), func(r *impl.Raft) {
		if after.Match == nil {
			after.Match = make([]int, 3)
		}
		r.Peers[1] = after
		r.Mail = append([]impl.Mail{r.Mail[0], r.Mail[2]}, back...)
	})
}

func TestTakeALetterByItsTerm(t *testing.T) {
	e := impl.Entry{Term: 2, Value: 9}
	for _, p := range []impl.Peer{
		{Term: 3, Log: entries(1)},
		{Term: 3, Leads: true, Log: entries(1), Match: []int{1, 1, 0}},
		{Term: 3, Leads: true, Log: entries(1)},
	} {
		greater := impl.Peer{Term: 5, Log: entries(1)}
		wantTaken(t, "a greater one, without an entry", p, sent(0, 1, 5, 1, 1, 0), greater, reply(1, 0, 5, 1))
		wantTaken(t, "a greater one that does not fit", p, sent(0, 1, 5, 1, 0, 1), greater)
		wantTaken(t, "a greater one that is too far", p, sent(0, 1, 5, 2, 1, 2), greater)
		wantTaken(t, "a reply of a greater one", p, reply(2, 1, 5, 1), greater)
		greater.Log, greater.Commit = []impl.Entry{{Term: 1}, e}, 2
		wantTaken(t, "a greater one, with an entry", p, sent(0, 1, 5, 1, 1, 2, e), greater, reply(1, 0, 5, 2))

		wantTaken(t, "a lesser one", p, sent(0, 1, 2, 1, 1, 1, e), p)
		wantTaken(t, "a lesser one, without an entry", p, sent(0, 1, 2, 0, -1, 1), p)
		wantTaken(t, "a reply of a lesser one", p, reply(2, 1, 2, 1), p)

		same := p
		same.Log, same.Commit = []impl.Entry{{Term: 1}, e}, 2
		wantTaken(t, "the same, whether it leads or not", p, sent(0, 1, 3, 1, 1, 2, e), same, reply(1, 0, 3, 2))
	}
	wantTaken(t, "the last term", impl.Peer{Term: 99}, sent(0, 1, 100, 0, -1, 0), impl.Peer{Term: 100}, reply(1, 0, 100, 0))
}

func TestTakeALetterWhosePrevIsThereOrIsNot(t *testing.T) {
	e := impl.Entry{Term: 4, Value: 9}
	log := entries(1, 1, 3)
	p := impl.Peer{Term: 4, Log: log, Commit: 1}
	behind := impl.Peer{Term: 4, Log: append(slices.Clone(log), e), Commit: 1}
	wantTaken(t, "at the end", p, sent(0, 1, 4, 3, 3, 0, e), behind, reply(1, 0, 4, 4))
	wantTaken(t, "at the end, without an entry", p, sent(0, 1, 4, 3, 3, 0), p, reply(1, 0, 4, 3))
	wantTaken(t, "at the end, another PTerm", p, sent(0, 1, 4, 3, 1, 3, e), p)
	wantTaken(t, "at the end, a greater PTerm", p, sent(0, 1, 4, 3, 4, 3, e), p)
	wantTaken(t, "one behind the end", p, sent(0, 1, 4, 4, 3, 3, e), p)
	wantTaken(t, "far behind the end", p, sent(0, 1, 4, 30, 3, 3), p)
	wantTaken(t, "within, without an entry", p, sent(0, 1, 4, 2, 1, 0), p, reply(1, 0, 4, 2))
	wantTaken(t, "within, another PTerm", p, sent(0, 1, 4, 2, 2, 2, e), p)
	wantTaken(t, "within, a lesser PTerm", p, sent(0, 1, 4, 2, 0, 2), p)
	wantTaken(t, "at 0, without an entry", p, sent(0, 1, 4, 0, -1, 0), p, reply(1, 0, 4, 0))
	wantTaken(t, "of no entries", impl.Peer{Term: 4}, sent(0, 1, 4, 0, -1, 1, e), impl.Peer{Term: 4, Log: []impl.Entry{e}, Commit: 1}, reply(1, 0, 4, 1))
	wantTaken(t, "of no entries, one behind", impl.Peer{Term: 4}, sent(0, 1, 4, 1, 0, 1, e), impl.Peer{Term: 4})
}

func TestTakeAnEntryThatIsThereOrIsNot(t *testing.T) {
	log := entries(1, 1, 3, 3)
	p := impl.Peer{Term: 4, Log: log}
	wantTaken(t, "it is there", p, sent(0, 1, 4, 1, 1, 0, log[1]), p, reply(1, 0, 4, 2))
	wantTaken(t, "it is there, the last one", p, sent(0, 1, 4, 3, 3, 0, log[3]), p, reply(1, 0, 4, 4))
	wantTaken(t, "it is there, the first one", p, sent(0, 1, 4, 0, -1, 0, log[0]), p, reply(1, 0, 4, 1))
	wantTaken(t, "another one of its Term is there", p, sent(0, 1, 4, 2, 1, 0, impl.Entry{Term: 3, Value: 77}), p, reply(1, 0, 4, 3))
	e := impl.Entry{Term: 4, Value: 77}
	for at, ahead := range []int{-1, 1, 1, 3} {
		cut := impl.Peer{Term: 4, Log: append(slices.Clone(log[:at]), e)}
		wantTaken(t, "another Term lies there", p, sent(0, 1, 4, at, ahead, 0, e), cut, reply(1, 0, 4, at+1))
	}
	lesser := impl.Entry{Term: 2, Value: 77}
	wantTaken(t, "a greater Term lies there", p, sent(0, 1, 4, 2, 1, 0, lesser), impl.Peer{Term: 4, Log: []impl.Entry{log[0], log[1], lesser}}, reply(1, 0, 4, 3))
}

func TestTakeAnEntryWhereThereIsNoRoom(t *testing.T) {
	e := impl.Entry{Term: 7, Value: 1}
	full := impl.Peer{Term: 7, Log: manyEntries(30, 6), Commit: 3}
	known := full
	known.Commit = 30
	wantTaken(t, "no room", full, sent(0, 1, 7, 30, 6, 0, e), full, reply(1, 0, 7, 30))
	wantTaken(t, "no room, committed", full, sent(0, 1, 7, 30, 6, 30, e), known, reply(1, 0, 7, 30))
	wantTaken(t, "no room, none needed", full, sent(0, 1, 7, 30, 6, 30), known, reply(1, 0, 7, 30))
	last := impl.Peer{Term: 7, Log: append(manyEntries(29, 6), e), Commit: 3}
	wantTaken(t, "in the place of the last one", full, sent(0, 1, 7, 29, 6, 0, e), last, reply(1, 0, 7, 30))
	wantTaken(t, "the last room", impl.Peer{Term: 7, Log: manyEntries(29, 6), Commit: 3}, sent(0, 1, 7, 29, 6, 0, e), last, reply(1, 0, 7, 30))
}

func TestTakeTheCommitOfALetter(t *testing.T) {
	log := entries(1, 1, 3, 3)
	e := impl.Entry{Term: 4, Value: 77}
	for _, c := range []struct {
		why          string
		before, told int
		prev, pterm  int
		e            []impl.Entry
		long, after  int
	}{
		{"more", 1, 2, 3, 3, nil, 4, 2},
		{"as much", 2, 2, 3, 3, nil, 4, 2},
		{"less", 2, 1, 3, 3, nil, 4, 2},
		{"more than Prev", 1, 4, 2, 1, nil, 4, 2},
		{"more than Prev, which is less", 3, 4, 2, 1, nil, 4, 3},
		{"as much as Prev", 1, 3, 3, 3, nil, 4, 3},
		{"more than all", 1, 30, 4, 3, nil, 4, 4},
		{"with an entry that is there", 1, 30, 2, 1, log[2:3], 4, 3},
		{"with an entry that is there, less", 1, 2, 2, 1, log[2:3], 4, 2},
		{"with an entry that comes", 1, 5, 4, 3, []impl.Entry{e}, 5, 5},
		{"with an entry that comes, not it", 1, 4, 4, 3, []impl.Entry{e}, 5, 4},
		{"with an entry that comes, 0", 1, 0, 4, 3, []impl.Entry{e}, 5, 1},
		{"0 at 0", 0, 0, 0, -1, nil, 4, 0},
		{"30 at 0", 0, 30, 0, -1, nil, 4, 0},
		{"30 at 0, with the first", 0, 30, 0, -1, log[:1], 4, 1},
		{"where the log is cut", 1, 30, 2, 1, []impl.Entry{e}, 3, 3},
		{"where it is cut, and told less", 2, 1, 2, 1, []impl.Entry{e}, 3, 2},
		{"where it is cut below Commit", 4, 0, 1, 1, []impl.Entry{e}, 2, 2},
		{"where it is cut at 0", 4, 0, 0, -1, []impl.Entry{e}, 1, 1},
	} {
		p := impl.Peer{Term: 4, Log: log, Commit: c.before, Match: make([]int, 3)}
		got, ok := wantRaftStep(t, c.why, oneTo(p, sent(0, 1, 4, c.prev, c.pterm, c.told, c.e...)), rfTake(1))
		if !ok || len(got.Peers[1].Log) != c.long || got.Peers[1].Commit != c.after {
			t.Error(c.why, got.Peers, ok)
		}
	}
}

// A leader that takes a letter of its own term stays one; where its log is cut it
// knows of no more than there is.
func TestTakeALetterThatCutsOneWhoLeads(t *testing.T) {
	e := impl.Entry{Term: 4, Value: 77}
	p := impl.Peer{Term: 4, Leads: true, Log: entries(1, 1, 3, 3), Commit: 4, Match: []int{1, 4, 3}}
	after := impl.Peer{Term: 4, Leads: true, Log: append(entries(1), e), Commit: 2, Match: []int{1, 2, 2}}
	wantTaken(t, "cut", p, sent(0, 1, 4, 1, 1, 0, e), after, reply(1, 0, 4, 2))
	longer := p
	longer.Log = append(slices.Clone(p.Log), e)
	wantTaken(t, "longer", p, sent(0, 1, 4, 4, 3, 0, e), longer, reply(1, 0, 4, 5))
	turned := p
	turned.Log = append(entries(1, 1, 3), e)
	wantTaken(t, "as long", p, sent(0, 1, 4, 3, 3, 0, e), turned, reply(1, 0, 4, 4))
	follows := impl.Peer{Term: 5, Log: append(entries(1), e), Commit: 2}
	wantTaken(t, "cut in a greater term", p, sent(0, 1, 5, 1, 1, 0, e), follows, reply(1, 0, 5, 2))
}

func TestTakeAReply(t *testing.T) {
	for _, c := range []struct {
		why         string
		told, after int
	}{
		{"more", 3, 3}, {"all", 4, 4}, {"as much", 2, 2}, {"less", 1, 2}, {"nothing", 0, 2},
		{"more than its log is long", 5, 2}, {"as much as may be", 30, 2},
	} {
		p := impl.Peer{Term: 4, Leads: true, Log: entries(1, 1, 3, 4), Commit: 1, Match: []int{1, 4, 2}}
		after := p
		after.Match = []int{1, 4, c.after}
		wantTaken(t, c.why, p, reply(2, 1, 4, c.told), after)
		after.Match = []int{max(1, c.told), 4, 2}
		if c.told > 4 {
			after.Match[0] = 1
		}
		wantTaken(t, c.why+", from another one", p, reply(0, 1, 4, c.told), after)
		follows := impl.Peer{Term: 4, Log: p.Log, Commit: 1}
		wantTaken(t, c.why+", where it does not lead", follows, reply(2, 1, 4, c.told), follows)
	}
}

// The letter that leaves makes the room for its reply.
func TestTakeALetterWhereThereIsRoomForTheReply(t *testing.T) {
	for _, many := range []int{1, 2, 19, 20} {
		r := raftWithPost(3, many)
		wantRaftChanged(t, "the reply goes", r, rfTake(many-1), func(r *impl.Raft) {
			r.Peers[1].Term, r.Peers[1].Log = 1, entries(1)
			r.Mail[many-1] = reply(1, 0, 1, 1)
		})
		wantRaftChanged(t, "it goes behind all", r, rfTake(0), func(r *impl.Raft) {
			r.Peers[1].Term, r.Peers[1].Log = 1, entries(1)
			r.Mail = append(r.Mail[1:], reply(1, 0, 1, 1))
		})
	}
	if got, ok := impl.StepRaft(raftWithPost(3, 21), rfTake(0)); ok || !sameRaft(got, impl.Raft{}) {
		t.Error("one too many", got, ok)
	}
}

func TestRaftCommit(t *testing.T) {
	r := plainRaft(5)
	r.Peers[3] = impl.Peer{Term: 4, Leads: true, Log: entries(1, 2, 4, 4, 4), Commit: 2, Match: []int{0, 4, 3, 5, 2}}
	for n, done := range map[int]bool{-1: false, 0: false, 1: false, 2: false, 3: true, 4: false, 5: false, 6: false, 7: false} {
		if !done {
			wantNoRaftStep(t, fmt.Sprint("commit ", n), r, rfCommit(3, n))
			continue
		}
		wantRaftChanged(t, fmt.Sprint("commit ", n), r, rfCommit(3, n), func(r *impl.Raft) { r.Peers[3].Commit = n })
	}
	r.Peers[3].Match = []int{5, 5, 5, 5, 5}
	for n := 3; n <= 5; n++ {
		wantRaftChanged(t, "more at once", r, rfCommit(3, n), func(r *impl.Raft) { r.Peers[3].Commit = n })
	}
	wantNoRaftStep(t, "one more than there is", r, rfCommit(3, 6))
	r.Peers[3].Commit = 0
	for n := 1; n <= 2; n++ {
		wantNoRaftStep(t, "of an elder term", r, rfCommit(3, n))
	}
	r.Peers[3].Commit = 5
	for n := range 7 {
		wantNoRaftStep(t, "all is", r, rfCommit(3, n))
	}
	wantNoRaftStep(t, "one that does not lead", replicating(), rfCommit(1, 2))
	for _, k := range []int{-1, 3, 4, 5} {
		wantNoRaftStep(t, "one who is not there", replicating(), rfCommit(k, 3))
	}
}

func TestRaftCommitByMoreThanHalf(t *testing.T) {
	for peers := 1; peers <= 5; peers++ {
		for bits := range 1 << peers {
			r := plainRaft(peers)
			have := 0
			match := make([]int, peers)
			for i := range match {
				match[i] = 1
				if bits>>i&1 == 1 {
					match[i] = 2
					have++
				}
			}
			r.Peers[0] = impl.Peer{Term: 1, Leads: true, Log: entries(1, 1), Match: match}
			if _, ok := wantRaftStep(t, "some", r, rfCommit(0, 2)); ok != (2*have > peers) {
				t.Error(match, ok)
			}
			if _, ok := wantRaftStep(t, "all", r, rfCommit(0, 1)); !ok {
				t.Error(match)
			}
		}
	}
}

func TestRaftLoseAndTwice(t *testing.T) {
	for k := range 4 {
		wantRaftChanged(t, "lost", replicating(), rfLose(k), func(r *impl.Raft) { r.Mail = slices.Delete(r.Mail, k, k+1) })
		wantRaftChanged(t, "twice", replicating(), rfTwice(k), func(r *impl.Raft) { r.Mail = append(r.Mail, r.Mail[k]) })
	}
	r := raftWithPost(3, 19)
	r.Mail[7] = reply(2, 1, 4, 30)
	wantRaftChanged(t, "just room", r, rfTwice(7), func(r *impl.Raft) { r.Mail = append(r.Mail, r.Mail[7]) })
	r.Mail = append(r.Mail, sent(1, 2, 0, 0, -1, 0))
	for _, k := range []int{0, 7, 19} {
		wantNoRaftStep(t, "no room", r, rfTwice(k))
		wantRaftChanged(t, "lost of as many as may be", r, rfLose(k), func(r *impl.Raft) { r.Mail = slices.Delete(r.Mail, k, k+1) })
	}
}

func TestMailThatIsNotThere(t *testing.T) {
	for why, r := range someRafts() {
		for _, k := range []int{-1, len(r.Mail), len(r.Mail) + 1, 20, 21} {
			if k >= 0 && k < len(r.Mail) {
				continue
			}
			for _, x := range []impl.RaftStep{rfTake(k), rfLose(k), rfTwice(k)} {
				wantNoRaftStep(t, why, r, x)
			}
		}
	}
}

// Each of these is done where the field that it has no use for is zero.
func TestRaftStepsWithFieldsOfNoUse(t *testing.T) {
	for _, x := range []impl.RaftStep{rfElect(0, 3), rfPropose(0, 5), rfCommit(0, 3), rfTake(0), rfLose(0), rfTwice(0)} {
		r := replicating()
		r.Peers[0].Match = []int{3, 3, 3}
		if _, ok := wantRaftStep(t, "as it is", r, x); !ok {
			t.Error(x)
		}
		for _, n := range []int{-1, 1, 2, 100} {
			y := x
			y.To = n
			wantNoRaftStep(t, "a To", r, y)
			if x.N == 0 {
				y = x
				y.N = n
				wantNoRaftStep(t, "an N", r, y)
			}
		}
	}
}

func TestRaftStepsThatAreNone(t *testing.T) {
	for why, r := range someRafts() {
		for k := -1; k <= 5; k++ {
			for _, kind := range []int{-1, 0, 8, 9, 100} {
				for n := range 4 {
					wantNoRaftStep(t, why+": no such kind", r, impl.RaftStep{Kind: kind, K: k, N: n})
					wantNoRaftStep(t, why+": no such kind", r, impl.RaftStep{Kind: kind, K: k, To: n})
				}
			}
		}
	}
}

func TestPlayRaft(t *testing.T) {
	for peers := 1; peers <= 5; peers++ {
		r, did, ok := impl.PlayRaft(peers, nil)
		if !ok || len(did) != 0 || !sameRaft(r, plainRaft(peers)) {
			t.Error("no step", r, did, ok)
		}
	}
	l := []impl.RaftStep{
		rfPropose(0, 7), rfElect(0, 3), rfPropose(0, 7), rfSend(0, 1, 0), rfSend(0, 0, 0), rfTwice(0), rfTake(0), {},
		rfCommit(0, 1), rfTake(1), rfCommit(0, 1), rfSend(0, 1, 1), rfTake(1), rfLose(0), rfElect(2, 6), rfTake(4)}
	want := impl.Raft{
		Peers: []impl.Peer{
			{Term: 1, Leads: true, Log: []impl.Entry{{Term: 1, Value: 7}}, Commit: 1, Match: []int{1, 1, 0}},
			{Term: 1, Log: []impl.Entry{{Term: 1, Value: 7}}, Commit: 1, Match: make([]int, 3)},
			{Match: make([]int, 3)},
		},
		Mail: []impl.Mail{reply(1, 0, 1, 1)},
	}
	r, did, ok := impl.PlayRaft(3, l)
	done := []bool{false, true, true, true, false, true, true, false, false, true, true, true, true, true, false, false}
	if !ok || !sameRaft(r, want) || !slices.Equal(did, done) {
		t.Error(r, did, ok)
	}
}

func TestPlayRaftOfAtMostSoManySteps(t *testing.T) {
	l := slices.Repeat([]impl.RaftStep{rfElect(0, 1)}, 102)
	for _, many := range []int{0, 1, 2, 99, 100} {
		r, did, ok := impl.PlayRaft(1, l[:many])
		if !ok || len(did) != many || slices.Contains(did, false) || r.Peers[0].Term != many {
			t.Error(many, r, did, ok)
		}
		wantRaftPlay(t, "steps", 1, l[:many])
	}
	for _, l := range [][]impl.RaftStep{l[:101], l[:102], make([]impl.RaftStep, 101)} {
		if r, did, ok := impl.PlayRaft(1, l); ok || len(did) != 0 || !sameRaft(r, impl.Raft{}) {
			t.Error("one more", r, did, ok)
		}
	}
	r, did, ok := impl.PlayRaft(2, make([]impl.RaftStep, 100))
	if !ok || !slices.Equal(did, make([]bool, 100)) || !sameRaft(r, plainRaft(2)) {
		t.Error("none is done", r, did, ok)
	}
	for _, peers := range []int{-1, 0, 6, 7} {
		if r, did, ok := impl.PlayRaft(peers, l[:4]); ok || len(did) != 0 || !sameRaft(r, impl.Raft{}) {
			t.Error(peers, r, did, ok)
		}
	}
}

func TestCommittedIn(t *testing.T) {
	r := plainRaft(4)
	if l, ok := impl.CommittedIn(r); !ok || len(l) != 0 {
		t.Error("nothing", l, ok)
	}
	for k, value := range []int{10, 20, 30, 40} {
		r.Peers[k].Term, r.Peers[k].Log = 2, []impl.Entry{{Term: 1, Value: value}, {Term: 2, Value: value + 1}}
	}
	for _, c := range []struct {
		commits []int
		want    []impl.Entry
	}{
		{[]int{0, 0, 0, 0}, nil},
		{[]int{1, 0, 0, 0}, r.Peers[0].Log[:1]},
		{[]int{0, 0, 0, 1}, r.Peers[3].Log[:1]},
		{[]int{1, 2, 1, 0}, r.Peers[1].Log},
		{[]int{1, 2, 1, 2}, r.Peers[1].Log},
		{[]int{0, 1, 1, 1}, r.Peers[1].Log[:1]},
		{[]int{1, 1, 1, 2}, r.Peers[3].Log},
		{[]int{2, 2, 2, 2}, r.Peers[0].Log},
	} {
		for k, commit := range c.commits {
			r.Peers[k].Commit = commit
		}
		if l, ok := impl.CommittedIn(r); !ok || !slices.Equal(l, c.want) {
			t.Error(c.commits, l, ok)
		}
	}
	if l, ok := impl.CommittedIn(longLogs()); !ok || len(l) != 30 {
		t.Error("as many as may be", l, ok)
	}
}

func wantMatch(t *testing.T, why string, a, b []impl.Entry, match, good bool) {
	t.Helper()
	if got, ok := impl.LogsMatch(a, b); got != match || ok != good {
		t.Errorf("%s: LogsMatch %v %v: %v %v", why, a, b, got, ok)
	}
	if got, ok := impl.LogsMatch(b, a); got != match || ok != good {
		t.Errorf("%s: LogsMatch %v %v: %v %v", why, b, a, got, ok)
	}
}

func TestLogsMatch(t *testing.T) {
	log := entries(1, 2, 2, 4)
	turnedAt := func(at int) []impl.Entry {
		l := slices.Clone(log)
		l[at].Value = 50
		return l
	}
	wantMatch(t, "the same", log, log, true, true)
	for many := range 5 {
		wantMatch(t, "the other's beginning", log, log[:many], true, true)
	}
	for at := range 4 {
		wantMatch(t, "the same Terms, unlike Values", log, turnedAt(at), false, true)
		wantMatch(t, "unlike behind the other's end", log[:at], turnedAt(at), true, true)
		wantMatch(t, "unlike ahead of the other's end", log[:at+1], turnedAt(at), false, true)
	}
	wantMatch(t, "both without entries", nil, nil, true, true)
	wantMatch(t, "no list and an empty one", nil, []impl.Entry{}, true, true)
	wantMatch(t, "they part", log, entries(1, 2, 3, 3), true, true)
	wantMatch(t, "they part at once", log, entries(2, 3, 4, 5), true, true)
	wantMatch(t, "one Term behind where they part", log, entries(1, 1, 3, 4), false, true)
	wantMatch(t, "one Term further on", entries(1, 2, 2, 4), entries(1, 1, 2), false, true)
	wantMatch(t, "one Term, at other places", entries(1, 2, 3), entries(2, 3), true, true)
	wantMatch(t, "the last ones", []impl.Entry{{Term: 1, Value: 5}, {Term: 2}}, []impl.Entry{{Term: 1, Value: 6}, {Term: 2}}, false, true)
	wantMatch(t, "the first ones unlike, no later Term", []impl.Entry{{Term: 1, Value: 5}, {Term: 2}}, []impl.Entry{{Term: 0, Value: 5}, {Term: 3}}, true, true)
	wantMatch(t, "as many as may be", manyEntries(30, 100), manyEntries(30, 100), true, true)
	wantMatch(t, "as many, but the last", manyEntries(30, 100), append(manyEntries(29, 100), impl.Entry{Term: 100}), false, true)
	for why, bad := range badRaftLogs() {
		for _, other := range [][]impl.Entry{nil, entries(0), manyEntries(30, 100), bad} {
			wantMatch(t, why, bad, other, false, false)
		}
	}
	wantMatch(t, "the ends", []impl.Entry{{Term: 0, Value: 0}, {Term: 100, Value: 99}}, []impl.Entry{{Term: 0, Value: 0}, {Term: 100, Value: 99}}, true, true)
}

func TestAllFewLogsMatchOrNot(t *testing.T) {
	all := [][]impl.Entry{nil}
	for at := 0; at < len(all); at++ {
		if len(all[at]) == 3 {
			continue
		}
		for term := range 3 {
			for value := range 2 {
				l := append(slices.Clone(all[at]), impl.Entry{Term: term, Value: value})
				if plainRaftLogGood(l, 100) {
					all = append(all, l)
				}
			}
		}
	}
	match, not := 0, 0
	for _, a := range all {
		for _, b := range all {
			want, wanted := plainLogsMatch(a, b)
			got, ok := impl.LogsMatch(a, b)
			if got != want || ok != wanted {
				t.Error(a, b, got, ok)
			}
			if got {
				match++
			} else {
				not++
			}
		}
	}
	if match < 100 || not < 100 {
		t.Error("one kind alone", match, not)
	}
}

func TestLeadersIn(t *testing.T) {
	for peers := 1; peers <= 5; peers++ {
		for bits := range 1 << peers {
			r := plainRaft(peers)
			var want []int
			for k := range peers {
				if bits>>k&1 == 1 {
					r.Peers[k].Leads = true
					want = append(want, k)
				}
			}
			if l, ok := impl.LeadersIn(r); !ok || !slices.Equal(l, want) {
				t.Error(peers, want, l, ok)
			}
		}
	}
}

func TestEntryAt(t *testing.T) {
	r := replicating()
	for k, p := range r.Peers {
		for at, want := range p.Log {
			if e, ok := impl.EntryAt(r, k, at); !ok || e != want {
				t.Error(k, at, e, ok)
			}
		}
		for _, at := range []int{-1, len(p.Log), len(p.Log) + 1, 30} {
			if e, ok := impl.EntryAt(r, k, at); ok || e != (impl.Entry{}) {
				t.Error(k, at, e, ok)
			}
		}
	}
	for _, k := range []int{-1, 3, 4, 5} {
		if e, ok := impl.EntryAt(r, k, 0); ok || e != (impl.Entry{}) {
			t.Error(k, e, ok)
		}
	}
	if e, ok := impl.EntryAt(longLogs(), 0, 29); !ok || e != (impl.Entry{Term: 7, Value: 99}) {
		t.Error("the last place", e, ok)
	}
	if e, ok := impl.EntryAt(plainRaft(1), 0, 0); ok || e != (impl.Entry{}) {
		t.Error("none", e, ok)
	}
}

func TestRandomRaftsAndSteps(t *testing.T) {
	r := newRandom()
	for range 100 {
		wantRaftSteps(t, "random", randomRaft(r))
	}
}

package tests

import (
	"math/rand/v2"
	"slices"
	"testing"

	"loop.example/g00361/impl"
)

// Promise 19 for chapter 9: answers at any arguments, nothing written into an
// argument, no memory shared.

// numbersOfElection are the places of all numbers of an election.
func numbersOfElection(e *impl.Election) []*int {
	var l []*int
	for i := range e.Servers {
		s := &e.Servers[i]
		l = append(l, &s.Term, &s.Voted)
		for j := range s.Got {
			l = append(l, &s.Got[j])
		}
		for j := range s.Log {
			l = append(l, &s.Log[j])
		}
	}
	for i := range e.Post {
		x := &e.Post[i]
		l = append(l, &x.To, &x.From, &x.Term, &x.Last, &x.Long)
	}
	for i := range e.Led {
		l = append(l, &e.Led[i].Term, &e.Led[i].Leader)
	}
	return l
}

// oddElections have an odd number or list at each place where an election has one.
func oddElections() []impl.Election {
	many := make([]int, 1<<16)
	l := []impl.Election{
		{Servers: make([]impl.Server, 1<<16)},
		{Post: make([]impl.Letter, 1<<16)},
		{Led: make([]impl.Vote, 1<<16)},
		{Post: []impl.Letter{asks(0, 1, 0, 0, 0)}, Led: make([]impl.Vote, 1)},
		{Servers: make([]impl.Server, 2), Post: make([]impl.Letter, 2), Led: make([]impl.Vote, 2)},
		{Servers: make([]impl.Server, 5), Led: make([]impl.Vote, 80)},
		changedElection(func(e *impl.Election) { e.Servers = make([]impl.Server, 1<<16) }),
		changedElection(func(e *impl.Election) { e.Servers = nil }),
		changedElection(func(e *impl.Election) { e.Servers = e.Servers[:1] }),
		changedElection(func(e *impl.Election) { e.Post = make([]impl.Letter, 1<<16) }),
		changedElection(func(e *impl.Election) { e.Led = make([]impl.Vote, 1<<16) }),
	}
	for k := range 3 {
		l = append(l,
			changedElection(func(e *impl.Election) { e.Servers[k].Got = many }),
			changedElection(func(e *impl.Election) { e.Servers[k].Got = steps(1<<16, 0, 1) }),
			changedElection(func(e *impl.Election) { e.Servers[k].Log = many }))
	}
	first := polling()
	for _, n := range append(oddNumbers(), -2, 2, 3, 4, 5, 10, 11, 13, 20, 21, 30, 31, 80, 81, 99, 100, 101) {
		for i := range numbersOfElection(&first) {
			e := polling()
			*numbersOfElection(&e)[i] = n
			l = append(l, e)
		}
		all := polling()
		for _, p := range numbersOfElection(&all) {
			*p = n
		}
		l = append(l, all)
	}
	return l
}

func TestAnyElectionIsAnswered(t *testing.T) {
	for _, e := range oddElections() {
		wantElection(t, "odd", e)
		for k := -1; k <= 4; k++ {
			for kind := 1; kind <= 5; kind++ {
				wantElectStep(t, "odd", e, impl.ElectStep{Kind: kind, K: k})
			}
		}
	}
}

func TestAnyElectionStepIsAnswered(t *testing.T) {
	numbers := append(oddNumbers(), 2, 3, 4, 5, 6, 19, 20, 21)
	var all []impl.ElectStep
	for _, a := range numbers {
		for _, b := range numbers {
			all = append(all, impl.ElectStep{Kind: a, K: b})
		}
	}
	for _, e := range []impl.Election{{}, polling(), plainElection(nil), withPost(5, 20), withLed(1, 80), badElections()["Voted -2"]} {
		for _, x := range all {
			wantElectStep(t, "odd", e, x)
		}
	}
	logs := [][]int{{1}, nil, {1, 2}}
	for i, x := range all {
		wantElectPlay(t, "odd", logs, []impl.ElectStep{x, elTimeout(2), x, elTake(0), all[len(all)-1-i], elTake(1), x})
	}
	wantElectPlay(t, "many", logs, make([]impl.ElectStep, 1<<16))
	wantElectPlay(t, "many good ones", logs, slices.Repeat([]impl.ElectStep{elTimeout(0), elLose(0), elLose(0)}, 1<<16))
}

func TestAnyLogsAreAnswered(t *testing.T) {
	odd := append(oddEntries(), []int{10}, []int{11}, []int{10, 11}, slices.Repeat([]int{10}, 30), slices.Repeat([]int{10}, 31))
	for _, a := range odd {
		for _, logs := range [][][]int{{a}, {a, nil}, {nil, {3}, a}, {a, a, a, a, a}, {a, a, a, a, a, a}} {
			want, wanted := plainNewElection(logs)
			if e, ok := impl.NewElection(logs); ok != wanted || !sameElection(e, want) {
				t.Error(logs, e, ok)
			}
			wantElectPlay(t, "odd", logs, []impl.ElectStep{elTimeout(0), elTake(0), elTake(0)})
		}
		for _, b := range odd {
			want, wanted := plainUpToDate(a, b)
			if got, ok := impl.UpToDate(a, b); got != want || ok != wanted {
				t.Error(len(a), len(b), got, ok)
			}
		}
	}
	wantElectPlay(t, "many", make([][]int, 1<<16), nil)
}

func TestAnyTermAndServerAreAnswered(t *testing.T) {
	for why, e := range someElections() {
		for _, n := range oddNumbers() {
			want, wanted := plainLeaderOf(e, n)
			if got, ok := impl.LeaderOf(e, n); got != want || ok != wanted {
				t.Error(why, n, got, ok)
			}
			may, wanted := plainMayLead(e, n)
			if got, ok := impl.MayLead(e, n); got != may || ok != wanted {
				t.Error(why, n, got, ok)
			}
		}
	}
}

// shiftedElection changes one number, bool or list of an election a little.
func shiftedElection(r *rand.Rand, e impl.Election) impl.Election {
	e = copyOfElection(e)
	s := &e.Servers[r.IntN(len(e.Servers))]
	x := &impl.Letter{}
	if len(e.Post) > 0 {
		x = &e.Post[r.IntN(len(e.Post))]
	}
	switch r.IntN(10) {
	case 0:
		s.Stands = !s.Stands
	case 1:
		s.Leads = !s.Leads
	case 2:
		s.Got = append(s.Got, r.IntN(6))
	case 3:
		x.Asks = !x.Asks
	case 4:
		x.Grant = !x.Grant
	case 5:
		s.Voted = r.IntN(8) - 2
	case 6:
		s.Log = append(s.Log, r.IntN(12))
	case 7:
		*x = impl.Letter{To: r.IntN(3), From: r.IntN(3), Term: r.IntN(14), Grant: true}
	default:
		numbers := numbersOfElection(&e)
		*numbers[r.IntN(len(numbers))] += 1 - 2*r.IntN(2)
	}
	return e
}

func TestElectionsNearToGoodOnesAreAnswered(t *testing.T) {
	r := newRandom()
	good := 0
	for range 3000 {
		e := shiftedElection(r, randomElection(r))
		if plainElectionGood(e) {
			good++
		}
		wantElectSteps(t, "near", e)
	}
	if good < 300 || good > 2700 {
		t.Error("one kind of elections alone", good)
	}
}

// roomyElection is the same election, all its lists with room behind their length,
// in which stands what would be taken for more of them.
func roomyElection(first impl.Election) impl.Election {
	var e impl.Election
	for _, s := range first.Servers {
		s.Got, _ = roomyList(s.Got, 4, -7)
		s.Log, _ = roomyList(s.Log, 100, -7)
		e.Servers = append(e.Servers, s)
	}
	e.Servers, _ = roomyList(e.Servers, impl.Server{Term: 10, Voted: -1}, impl.Server{Term: -7})
	e.Post, _ = roomyList(first.Post, answers(0, 1, 10, true), impl.Letter{To: -7})
	e.Led, _ = roomyList(first.Led, impl.Vote{Term: 13}, impl.Vote{Term: -7})
	return e
}

// memoryOfElection is an election with all its lists up to the end of their memory.
func memoryOfElection(e impl.Election) impl.Election {
	e.Servers = slices.Clone(e.Servers[:cap(e.Servers)])
	for i, s := range e.Servers {
		e.Servers[i].Got, e.Servers[i].Log = s.Got[:cap(s.Got)], s.Log[:cap(s.Log)]
	}
	e.Post, e.Led = e.Post[:cap(e.Post)], e.Led[:cap(e.Led)]
	return e
}

func TestElectionsStayAsTheyAre(t *testing.T) {
	all := badElections()
	for why, e := range someElections() {
		all[why] = e
	}
	for why, first := range all {
		e := roomyElection(first)
		if !sameElection(e, first) {
			t.Fatal("the election with room is not the same", why)
		}
		before := copyOfElection(memoryOfElection(e))
		wantElectSteps(t, why, e)
		if !sameElection(e, first) || !sameElection(memoryOfElection(e), before) {
			t.Error("written into the election:", why)
		}
	}
}

func TestElectionStepsAndLogsStayAsTheyAre(t *testing.T) {
	r := newRandom()
	for many := range 83 {
		firstLogs := randomLogs(r)
		logs, logMemory := roomyGroups(firstLogs)
		logsBefore := copyOfLists(groupsSeen(logs, logMemory))
		l, memory := roomyList(randomElectSteps(r, len(logs), many), elTimeout(0), elCrash(0), impl.ElectStep{Kind: -7})
		before := slices.Clone(memory)
		wantElectPlay(t, "room", logs, l)
		wantNewElection(t, "room", logs, true)
		if got, ok := impl.UpToDate(logs[0], logs[len(logs)-1]); !ok {
			t.Error(got, ok)
		}
		if !slices.Equal(memory, before) {
			t.Error("written into the steps", many)
		}
		if !sameLists(logs, firstLogs) || !sameLists(groupsSeen(logs, logMemory), logsBefore) {
			t.Error("written into the logs", many)
		}
	}
}

// listsOfElection are all lists of numbers of an election.
func listsOfElection(e impl.Election) [][]int {
	var l [][]int
	for _, s := range e.Servers {
		l = append(l, s.Got, s.Log)
	}
	return l
}

// wantOwnElection asks that nothing of the answer is of the argument's memory, nor
// two of its lists of one.
func wantOwnElection(t *testing.T, why string, e impl.Election, got impl.Election) {
	t.Helper()
	wantOwnLists(t, why, listsOfElection(e), listsOfElection(got))
	if listsShare(e.Servers, got.Servers) || listsShare(e.Post, got.Post) || listsShare(e.Led, got.Led) {
		t.Error(why, "a list is shared")
	}
}

// tightElections are good ones, some of them with lists that are pieces of one memory.
func tightElections() map[string]impl.Election {
	all := someElections()
	rising := []int{0, 1, 2, 3, 4}
	one := polling()
	for i := range one.Servers {
		one.Servers[i] = impl.Server{Term: 12, Voted: i, Stands: true, Got: rising[i:3], Log: rising[i:]}
	}
	all["one memory for all"] = one
	same := polling()
	for i := range same.Servers {
		same.Servers[i] = impl.Server{Term: 12, Voted: -1, Leads: true, Got: rising[:2], Log: rising}
	}
	all["the same lists"] = same
	empty := polling()
	for i := range empty.Servers {
		empty.Servers[i].Log = rising[i:i]
	}
	all["empty lists of one memory"] = empty
	return all
}

func TestElectionsShareNoMemory(t *testing.T) {
	for why, first := range tightElections() {
		if !impl.GoodElection(first) {
			t.Fatal(why)
		}
		for _, e := range []impl.Election{first, roomyElection(first)} {
			for _, x := range electStepsOn(e) {
				got, _ := impl.StepElection(e, x)
				wantOwnElection(t, why, e, got)
			}
		}
	}
	shared := []int{1, 2, 3, 4, 5}
	for _, logs := range [][][]int{{shared, shared, shared}, {shared[:2], shared[1:3], shared[2:2], nil}} {
		e, ok := impl.NewElection(logs)
		if !ok {
			t.Fatal(logs)
		}
		wantOwnLists(t, "new", logs, listsOfElection(e))
		e, _, ok = impl.PlayElection(logs, []impl.ElectStep{elTimeout(1), elTake(0), elTwice(0), elTake(1), elCrash(2)})
		if !ok {
			t.Fatal(logs)
		}
		wantOwnLists(t, "played", logs, listsOfElection(e))
	}
	r := newRandom()
	for range 60 {
		logs := randomLogs(r)
		e, _, _ := impl.PlayElection(logs, randomElectSteps(r, len(logs), 80))
		wantOwnLists(t, "played", logs, listsOfElection(e))
	}
}

// spoilElection writes into all of an election's memory.
func spoilElection(e impl.Election) {
	for _, l := range listsOfElection(e) {
		fill(l)
	}
	for i := range e.Servers[:cap(e.Servers)] {
		e.Servers[:cap(e.Servers)][i] = impl.Server{Term: -9}
	}
	for i := range e.Post[:cap(e.Post)] {
		e.Post[:cap(e.Post)][i] = impl.Letter{To: -9}
	}
	for i := range e.Led[:cap(e.Led)] {
		e.Led[:cap(e.Led)][i] = impl.Vote{Term: -9}
	}
}

// What is done to an answer, up to the end of its memory, is not seen in an
// argument, nor in what is answered next.
func TestAnsweredElectionsMayBeWrittenInto(t *testing.T) {
	for why, first := range tightElections() {
		e := roomyElection(first)
		before := copyOfElection(memoryOfElection(e))
		for range 2 {
			for _, x := range electStepsOn(e) {
				got, _ := wantElectStep(t, why, e, x)
				spoilElection(got)
			}
			wantElection(t, why, e)
		}
		if !sameElection(memoryOfElection(e), before) {
			t.Error("written into the election:", why)
		}
	}
	logs := [][]int{{1, 2}, {1}, {1, 2, 2}}
	l := []impl.ElectStep{elTimeout(0), elTake(0), elTwice(0), elTake(1), elTake(0), elCrash(2)}
	for range 2 {
		e, did, _ := impl.PlayElection(logs, l)
		spoilElection(e)
		for i := range did[:cap(did)] {
			did[:cap(did)][i] = false
		}
		wantElectPlay(t, "once more", logs, l)
		fresh, _ := impl.NewElection(logs)
		spoilElection(fresh)
		wantNewElection(t, "once more", logs, true)
	}
	if !sameLists(logs, [][]int{{1, 2}, {1}, {1, 2, 2}}) {
		t.Error("written into the logs", logs)
	}
	TestWhatANewElectionHas(t)
}

// What is refused hands out nothing, not even an empty list with memory of an
// argument behind it.
func TestRefusedElectionsHandOutNothing(t *testing.T) {
	all := badElections()
	for why, e := range someElections() {
		all[why] = e
	}
	for why, first := range all {
		e := roomyElection(first)
		for _, x := range electStepsOn(e) {
			if got, ok := impl.StepElection(e, x); !ok && cap(got.Servers)+cap(got.Post)+cap(got.Led) != 0 {
				t.Error(why, x, got)
			}
		}
	}
	for _, logs := range [][][]int{nil, {}, make([][]int, 6), {{1}, {11}}, {{1}, {3, 2}}} {
		if got, ok := impl.NewElection(logs); ok || cap(got.Servers)+cap(got.Post)+cap(got.Led) != 0 {
			t.Error(logs, got, ok)
		}
		if got, did, ok := impl.PlayElection(logs, make([]impl.ElectStep, 3)); ok || cap(got.Servers)+cap(got.Post)+cap(got.Led)+cap(did) != 0 {
			t.Error(logs, got, did, ok)
		}
	}
}

package tests

import (
	"fmt"
	"slices"
	"testing"

	"loop.example/g00361/impl"
)

// Chapter 9, function by function and step by step. Who comes to lead in plays
// stands in l9_leader_test.go.

// wantElection holds all answers of an election but its steps against what the
// plain words tell.
func wantElection(t *testing.T, why string, e impl.Election) {
	t.Helper()
	if got, want := impl.GoodElection(e), plainElectionGood(e); got != want {
		t.Errorf("%s: GoodElection %v: %v", why, e, got)
	}
	for _, term := range []int{-1, 0, 9, 10, 11, 12, 13, 99, 100, 101} {
		want, wanted := plainLeaderOf(e, term)
		if got, ok := impl.LeaderOf(e, term); got != want || ok != wanted {
			t.Errorf("%s: LeaderOf %v %d: %v %v", why, e, term, got, ok)
		}
	}
	for server := -1; server <= 6; server++ {
		want, wanted := plainMayLead(e, server)
		if got, ok := impl.MayLead(e, server); got != want || ok != wanted {
			t.Errorf("%s: MayLead %v %d: %v %v", why, e, server, got, ok)
		}
	}
}

// wantElectStep does so of a step, and tells where it leads.
func wantElectStep(t *testing.T, why string, e impl.Election, x impl.ElectStep) (impl.Election, bool) {
	t.Helper()
	want, wanted := plainElectStep(e, x)
	got, ok := impl.StepElection(e, x)
	if !sameElection(got, want) || ok != wanted {
		t.Errorf("%s: StepElection %v %v: %v %v", why, e, x, got, ok)
	}
	if ok && !impl.GoodElection(got) {
		t.Errorf("%s: StepElection %v %v: not good: %v", why, e, x, got)
	}
	return got, ok
}

func wantElectSteps(t *testing.T, why string, e impl.Election) {
	t.Helper()
	wantElection(t, why, e)
	for _, x := range electStepsOn(e) {
		wantElectStep(t, why, e, x)
	}
}

// wantElected asks of a step that it leads to an election as the change tells.
func wantElected(t *testing.T, why string, e impl.Election, x impl.ElectStep, change func(e *impl.Election)) {
	t.Helper()
	want := copyOfElection(e)
	change(&want)
	if got, ok := impl.StepElection(e, x); !ok || !sameElection(got, want) {
		t.Errorf("%s: StepElection %v %v: %v %v", why, e, x, got, ok)
	}
}

// wantNoStep asks that nothing is handed out of a step of a good election.
func wantNoStep(t *testing.T, why string, e impl.Election, x impl.ElectStep) {
	t.Helper()
	if !impl.GoodElection(e) {
		t.Errorf("%s: not good: %v", why, e)
	}
	if got, ok := impl.StepElection(e, x); ok || !sameElection(got, impl.Election{}) {
		t.Errorf("%s: StepElection %v %v: %v %v", why, e, x, got, ok)
	}
}

func wantElectPlay(t *testing.T, why string, logs [][]int, l []impl.ElectStep) {
	t.Helper()
	want, wantDid, wanted := plainElectPlay(logs, l)
	got, did, ok := impl.PlayElection(logs, l)
	if !sameElection(got, want) || !slices.Equal(did, wantDid) || ok != wanted {
		t.Errorf("%s: PlayElection %v %v: %v %v %v", why, logs, l, got, did, ok)
	}
}

func wantNewElection(t *testing.T, why string, logs [][]int, good bool) {
	t.Helper()
	var want impl.Election
	if good {
		want = plainElection(logs...)
	}
	got, ok := impl.NewElection(logs)
	if ok != good || !sameElection(got, want) || impl.GoodElection(got) != good {
		t.Errorf("%s: NewElection %v: %v %v", why, logs, got, ok)
	}
}

func TestTheNamedNumbersOfElections(t *testing.T) {
	got := []int{impl.MaxServers, impl.MaxElectSteps, impl.MaxTerm, impl.MaxPost, impl.ElTimeout, impl.ElTake, impl.ElLose, impl.ElTwice, impl.ElCrash}
	if !slices.Equal(got, []int{5, 80, 100, 20, 1, 2, 3, 4, 5}) {
		t.Error(got)
	}
}

func TestNewElection(t *testing.T) {
	for many := range 8 {
		wantNewElection(t, "without entries", make([][]int, many), many >= 1 && many <= 5)
		wantNewElection(t, "of some", slices.Repeat([][]int{{0, 3, 3, 10}}, many), many >= 1 && many <= 5)
	}
	wantNewElection(t, "no list", nil, false)
	for _, c := range []struct {
		log  []int
		good bool
	}{
		{[]int{}, true}, {[]int{0}, true}, {[]int{10}, true}, {[]int{0, 10}, true}, {[]int{10, 10}, true},
		{slices.Repeat([]int{10}, 30), true}, {make([]int, 30), true},
		{[]int{11}, false}, {[]int{10, 11}, false}, {[]int{0, 100}, false}, {[]int{100}, false},
		{slices.Repeat([]int{10}, 31), false}, {make([]int, 31), false}, {[]int{-1}, false}, {[]int{-1, 3}, false}, {[]int{3, 2}, false}, {[]int{101}, false},
		{[]int{11, 10}, false},
	} {
		wantNewElection(t, "alone", [][]int{c.log}, c.good)
		wantNewElection(t, "the first", [][]int{c.log, {1}, nil}, c.good)
		wantNewElection(t, "the last", [][]int{{1}, nil, nil, {10}, c.log}, c.good)
	}
}

func TestWhatANewElectionHas(t *testing.T) {
	e, ok := impl.NewElection([][]int{{1, 2}, nil, {10}})
	if !ok || len(e.Servers) != 3 || len(e.Post) != 0 || len(e.Led) != 0 {
		t.Fatal(e, ok)
	}
	for i, s := range e.Servers {
		if s.Term != 10 || s.Voted != -1 || s.Stands || s.Leads || len(s.Got) != 0 {
			t.Error(i, s)
		}
	}
	if !slices.Equal(e.Servers[0].Log, []int{1, 2}) || len(e.Servers[1].Log) != 0 || !slices.Equal(e.Servers[2].Log, []int{10}) {
		t.Error(e)
	}
}

func TestUpToDate(t *testing.T) {
	for _, c := range []struct {
		why  string
		a, b []int
		want bool
	}{
		{"a greater term, more entries", []int{1, 3, 3}, []int{1, 2}, true},
		{"a greater term, as many", []int{1, 3}, []int{1, 2}, true},
		{"a greater term, fewer", []int{3}, []int{1, 2, 2}, true},
		{"the same term, more", []int{1, 2, 2}, []int{1, 2}, true},
		{"the same term, as many", []int{1, 2}, []int{0, 2}, true},
		{"the same term, fewer", []int{1, 2}, []int{1, 2, 2}, false},
		{"a lesser term, more", []int{1, 1, 1}, []int{2}, false},
		{"a lesser term, as many", []int{1, 1}, []int{1, 2}, false},
		{"a lesser term, fewer", []int{1}, []int{1, 2}, false},
		{"both without entries", nil, nil, true},
		{"the first without", nil, []int{0}, false},
		{"the second without", []int{0}, nil, true},
		{"the ends", slices.Repeat([]int{100}, 30), slices.Repeat([]int{100}, 30), true},
		{"the ends, one less", slices.Repeat([]int{100}, 29), slices.Repeat([]int{100}, 30), false},
		{"the ends, a greater term", []int{100}, slices.Repeat([]int{99}, 30), true},
	} {
		if got, ok := impl.UpToDate(c.a, c.b); got != c.want || !ok {
			t.Error(c.why, got, ok)
		}
	}
	for why, bad := range badEntries() {
		for _, other := range [][]int{nil, {0}, {100}, bad} {
			if got, ok := impl.UpToDate(bad, other); got || ok {
				t.Error(why, other, "the first", got, ok)
			}
			if got, ok := impl.UpToDate(other, bad); got || ok {
				t.Error(why, other, "the second", got, ok)
			}
		}
	}
}

// Of any two logs one is up to date with the other, and what is so of three goes on.
func TestUpToDateIsAnOrder(t *testing.T) {
	all := allEntries(4, 3)
	up := func(a, b []int) bool {
		got, ok := impl.UpToDate(a, b)
		want, wanted := plainUpToDate(a, b)
		if got != want || ok != wanted {
			t.Fatal(a, b, got, ok)
		}
		return got
	}
	for _, a := range all {
		for _, b := range all {
			if !up(a, b) && !up(b, a) {
				t.Error("neither", a, b)
			}
			for _, c := range all {
				if up(a, b) && up(b, c) && !up(a, c) {
					t.Error("does not go on", a, b, c)
				}
			}
		}
	}
}

func asks(from, to, term, last, long int) impl.Letter {
	return impl.Letter{To: to, From: from, Term: term, Asks: true, Last: last, Long: long}
}

func answers(from, to, term int, grant bool) impl.Letter {
	return impl.Letter{To: to, From: from, Term: term, Grant: grant}
}

// polling is an election of three, of whom one leads in an older term, and one
// stands and asks.
func polling() impl.Election {
	return impl.Election{
		Servers: []impl.Server{
			{Term: 12, Voted: 0, Stands: true, Got: []int{0}, Log: []int{1, 2}},
			{Term: 11, Voted: 2, Log: []int{1}},
			{Term: 11, Voted: 2, Leads: true, Got: []int{1, 2}, Log: []int{1, 2, 2}},
		},
		Post: []impl.Letter{asks(0, 1, 12, 2, 2), asks(0, 2, 12, 2, 2), answers(1, 2, 11, true)},
		Led:  []impl.Vote{{Term: 11, Leader: 2}},
	}
}

func changedElection(change func(e *impl.Election)) impl.Election {
	e := polling()
	change(&e)
	return e
}

// withPost is an election of so many servers in the term 10 with as many letters.
func withPost(servers, letters int) impl.Election {
	e := plainElection(make([][]int, servers)...)
	e.Post = slices.Repeat([]impl.Letter{answers(0, 1, 10, true)}, letters)
	return e
}

// withLed is an election of so many servers, without entries, with as many that led.
func withLed(servers, led int) impl.Election {
	e := plainElection(make([][]int, servers)...)
	e.Led = slices.Repeat([]impl.Vote{{Term: 100, Leader: servers - 1}}, led)
	return e
}

func someElections() map[string]impl.Election {
	all := map[string]impl.Election{
		"new, of one":           plainElection(nil),
		"new, of two":           plainElection([]int{1}, nil),
		"new, of five":          plainElection(nil, []int{1}, []int{1, 2}, []int{10}, []int{3, 3}),
		"polling":               polling(),
		"one who leads alone":   electionAfter(plainElection([]int{4}), elTimeout(0)),
		"two who stand":         electionAfter(plainElection(nil, nil, nil), elTimeout(0), elTimeout(1)),
		"all stand":             electionAfter(plainElection(nil, nil, nil, nil, nil), elTimeout(0), elTimeout(1), elTimeout(2), elTimeout(3), elTimeout(4)),
		"as many letters":       withPost(2, 20),
		"as many but one":       withPost(2, 19),
		"as many, of five":      withPost(5, 20),
		"room for four letters": withPost(5, 16),
		"as many led":           withLed(1, 80),
		"as many led but one":   withLed(1, 79),
		"as many led, of three": withLed(3, 80),
	}
	for why, change := range goodElectionChanges() {
		all[why] = changedElection(change)
	}
	return all
}

// goodElectionChanges each leave polling good.
func goodElectionChanges() map[string]func(e *impl.Election) {
	return map[string]func(e *impl.Election){
		"a Term of 0":               func(e *impl.Election) { e.Servers[1].Term, e.Post = 0, e.Post[:2] },
		"a Term of MaxTerm":         func(e *impl.Election) { e.Servers[1].Term = 100 },
		"one who stands at MaxTerm": func(e *impl.Election) { e.Servers[0].Term = 100 },
		"Voted nobody":              func(e *impl.Election) { e.Servers[1].Voted = -1 },
		"Voted the first":           func(e *impl.Election) { e.Servers[1].Voted = 0 },
		"Voted itself":              func(e *impl.Election) { e.Servers[1].Voted = 1 },
		"stands, Voted nobody":      func(e *impl.Election) { e.Servers[0].Voted = -1 },
		"stands, Voted another":     func(e *impl.Election) { e.Servers[0].Voted = 2 },
		"stands, Got nobody":        func(e *impl.Election) { e.Servers[0].Got = nil },
		"stands, Got all":           func(e *impl.Election) { e.Servers[0].Got = []int{0, 1, 2} },
		"stands, Got another":       func(e *impl.Election) { e.Servers[0].Got = []int{2} },
		"leads, Got nobody":         func(e *impl.Election) { e.Servers[2].Got = nil },
		"leads, Got all":            func(e *impl.Election) { e.Servers[2].Got = []int{0, 1, 2} },
		"all lead": func(e *impl.Election) {
			e.Servers[0].Stands, e.Servers[0].Leads, e.Servers[1].Leads = false, true, true
		},
		"logs of the last term":        func(e *impl.Election) { e.Servers[1].Log = slices.Repeat([]int{100}, 30) },
		"no logs":                      func(e *impl.Election) { e.Servers[0].Log, e.Servers[1].Log, e.Servers[2].Log = nil, nil, nil },
		"no letters":                   func(e *impl.Election) { e.Post = nil },
		"as many letters that ask":     func(e *impl.Election) { e.Post = slices.Repeat([]impl.Letter{asks(0, 2, 12, 2, 2)}, 20) },
		"a letter of the term 0":       func(e *impl.Election) { e.Post[0].Term = 0 },
		"a letter of an older term":    func(e *impl.Election) { e.Post[0].Term = 11 },
		"an answer of an older term":   func(e *impl.Election) { e.Post[2].Term = 10 },
		"an answer without Grant":      func(e *impl.Election) { e.Post[2].Grant = false },
		"an answer of all zeros":       func(e *impl.Election) { e.Post[2] = impl.Letter{To: 1} },
		"asks with a Last of -1":       func(e *impl.Election) { e.Post[0].Last = -1 },
		"asks with a Last of 0":        func(e *impl.Election) { e.Post[0].Last = 0 },
		"asks with a Last of MaxTerm":  func(e *impl.Election) { e.Post[0].Last = 100 },
		"asks with a Long of 0":        func(e *impl.Election) { e.Post[0].Long = 0 },
		"asks with a Long of 30":       func(e *impl.Election) { e.Post[0].Long = 30 },
		"asks, nothing there":          func(e *impl.Election) { e.Post[0].Last, e.Post[0].Long = -1, 0 },
		"nobody led":                   func(e *impl.Election) { e.Led = nil },
		"led in the term 0":            func(e *impl.Election) { e.Led[0].Term = 0 },
		"led in the term MaxTerm":      func(e *impl.Election) { e.Led[0].Term = 100 },
		"the first server led":         func(e *impl.Election) { e.Led[0].Leader = 0 },
		"led later in an earlier term": func(e *impl.Election) { e.Led = append(e.Led, impl.Vote{Term: 10, Leader: 1}) },
		"two led in a term":            func(e *impl.Election) { e.Led = append(e.Led, impl.Vote{Term: 11, Leader: 1}) },
		"stands, nearly all led":       func(e *impl.Election) { e.Led = slices.Repeat(e.Led, 79) },
		"stands, all led":              func(e *impl.Election) { e.Led = slices.Repeat(e.Led, 80) },
	}
}

func badElections() map[string]impl.Election {
	all := map[string]impl.Election{
		"nothing at all":            {},
		"no server":                 plainElection(),
		"six servers":               plainElection(make([][]int, 6)...),
		"one letter too many":       withPost(2, 21),
		"one too many, of five":     withPost(5, 21),
		"one too many led":          withLed(1, 81),
		"one too many led, of five": withLed(5, 81),
		"one server with a letter":  {Servers: plainElection(nil).Servers, Post: []impl.Letter{asks(0, 0, 10, -1, 0)}},
		"one server with an answer": {Servers: plainElection(nil).Servers, Post: []impl.Letter{{}}},
	}
	for why, change := range badElectionChanges() {
		all[why] = changedElection(change)
	}
	for why, l := range badEntries() {
		for k := range 3 {
			all[fmt.Sprint("a log ", k, ": ", why)] = changedElection(func(e *impl.Election) { e.Servers[k].Log = l })
		}
	}
	return all
}

// badElectionChanges each spoil polling by one thing.
func badElectionChanges() map[string]func(e *impl.Election) {
	all := map[string]func(e *impl.Election){
		"a Term of -1":                 func(e *impl.Election) { e.Servers[1].Term, e.Post = -1, nil },
		"a Term above MaxTerm":         func(e *impl.Election) { e.Servers[1].Term = 101 },
		"the last Term above":          func(e *impl.Election) { e.Servers[2].Term = 101 },
		"Voted -2":                     func(e *impl.Election) { e.Servers[1].Voted = -2 },
		"Voted one who is not there":   func(e *impl.Election) { e.Servers[1].Voted = 3 },
		"stands, Voted one not there":  func(e *impl.Election) { e.Servers[0].Voted = 3 },
		"stands and leads":             func(e *impl.Election) { e.Servers[0].Leads = true },
		"leads and stands":             func(e *impl.Election) { e.Servers[2].Stands = true },
		"both, Got nobody":             func(e *impl.Election) { e.Servers[1].Leads, e.Servers[1].Stands = true, true },
		"neither, Got itself":          func(e *impl.Election) { e.Servers[1].Got = []int{1} },
		"neither, Got another":         func(e *impl.Election) { e.Servers[1].Got = []int{0} },
		"neither, Got all":             func(e *impl.Election) { e.Servers[1].Got = []int{0, 1, 2} },
		"no more stands, Got stays":    func(e *impl.Election) { e.Servers[0].Stands = false },
		"no more leads, Got stays":     func(e *impl.Election) { e.Servers[2].Leads = false },
		"Got falls":                    func(e *impl.Election) { e.Servers[2].Got = []int{2, 1} },
		"Got one twice":                func(e *impl.Election) { e.Servers[2].Got = []int{1, 1} },
		"Got one twice in the end":     func(e *impl.Election) { e.Servers[2].Got = []int{0, 1, 2, 2} },
		"stands, Got one twice":        func(e *impl.Election) { e.Servers[0].Got = []int{0, 0} },
		"Got -1":                       func(e *impl.Election) { e.Servers[0].Got = []int{-1, 0} },
		"Got one who is not there":     func(e *impl.Election) { e.Servers[0].Got = []int{0, 3} },
		"leads, Got one not there":     func(e *impl.Election) { e.Servers[2].Got = []int{1, 2, 3} },
		"a server less":                func(e *impl.Election) { e.Servers = e.Servers[:2] },
		"an answer with a Last":        func(e *impl.Election) { e.Post[2].Last = 1 },
		"an answer with a Last of -1":  func(e *impl.Election) { e.Post[2].Last = -1 },
		"an answer with a Long":        func(e *impl.Election) { e.Post[2].Long = 1 },
		"an answer of no log":          func(e *impl.Election) { e.Post[2].Last, e.Post[2].Long = -1, 0 },
		"no Grant, a Long":             func(e *impl.Election) { e.Post[2].Grant, e.Post[2].Long = false, 3 },
		"asks with Grant":              func(e *impl.Election) { e.Post[0].Grant = true },
		"asks with a Last of -2":       func(e *impl.Election) { e.Post[0].Last = -2 },
		"asks with a Last above":       func(e *impl.Election) { e.Post[0].Last = 101 },
		"asks with a Long of -1":       func(e *impl.Election) { e.Post[0].Long = -1 },
		"asks with a Long of 31":       func(e *impl.Election) { e.Post[0].Long = 31 },
		"led in a term of -1":          func(e *impl.Election) { e.Led[0].Term = -1 },
		"led in a term above MaxTerm":  func(e *impl.Election) { e.Led[0].Term = 101 },
		"one led who is not there":     func(e *impl.Election) { e.Led[0].Leader = 3 },
		"one led who is -1":            func(e *impl.Election) { e.Led[0].Leader = -1 },
		"the last who led isn't there": func(e *impl.Election) { e.Led = append(e.Led, impl.Vote{Term: 12, Leader: 5}) },
		"one led too many":             func(e *impl.Election) { e.Led = slices.Repeat(e.Led, 81) },
	}
	for k := range 3 {
		for why, change := range badLetters() {
			all[fmt.Sprint("letter ", k, ": ", why)] = func(e *impl.Election) { change(&e.Post[k]) }
		}
		all[fmt.Sprint("letter ", k, ": above From's")] = func(e *impl.Election) { e.Post[k].Term = e.Servers[e.Post[k].From].Term + 1 }
	}
	return all
}

// badLetters each spoil any letter of polling by one thing.
func badLetters() map[string]func(x *impl.Letter) {
	return map[string]func(x *impl.Letter){
		"to itself":             func(x *impl.Letter) { x.To = x.From },
		"from whom it is to":    func(x *impl.Letter) { x.From = x.To },
		"to one not there":      func(x *impl.Letter) { x.To = 3 },
		"to -1":                 func(x *impl.Letter) { x.To = -1 },
		"from one not there":    func(x *impl.Letter) { x.From = 3 },
		"from -1":               func(x *impl.Letter) { x.From = -1 },
		"between two not there": func(x *impl.Letter) { x.From, x.To = 3, 4 },
		"a Term below 0":        func(x *impl.Letter) { x.Term = -1 },
		"a Term above all":      func(x *impl.Letter) { x.Term = 101 },
		"the other kind":        func(x *impl.Letter) { x.Asks, x.Grant, x.Last = !x.Asks, true, 1 },
	}
}

func TestGoodElections(t *testing.T) {
	for why, e := range someElections() {
		if !impl.GoodElection(e) {
			t.Error(why, e)
		}
		wantElectSteps(t, why, e)
	}
}

func TestBadElections(t *testing.T) {
	for why, e := range badElections() {
		if impl.GoodElection(e) {
			t.Error(why, e)
		}
		wantElection(t, why, e)
		for _, x := range electStepsOn(e) {
			if got, ok := impl.StepElection(e, x); ok || !sameElection(got, impl.Election{}) {
				t.Error(why, x, got, ok)
			}
		}
		for k := -1; k <= 6; k++ {
			if may, ok := impl.MayLead(e, k); may || ok {
				t.Error(why, k, may, ok)
			}
		}
		for _, v := range e.Led {
			if got, ok := impl.LeaderOf(e, v.Term); got != 0 || ok {
				t.Error(why, v, got, ok)
			}
		}
	}
}

func TestTimeout(t *testing.T) {
	e := plainElection([]int{1, 2, 2}, nil, []int{4}, nil, nil)
	wantElected(t, "of five", e, elTimeout(2), func(e *impl.Election) {
		e.Servers[2].Term, e.Servers[2].Voted, e.Servers[2].Stands, e.Servers[2].Got = 11, 2, true, []int{2}
		e.Post = []impl.Letter{asks(2, 0, 11, 4, 1), asks(2, 1, 11, 4, 1), asks(2, 3, 11, 4, 1), asks(2, 4, 11, 4, 1)}
	})
	wantElected(t, "one without entries", e, elTimeout(4), func(e *impl.Election) {
		e.Servers[4].Term, e.Servers[4].Voted, e.Servers[4].Stands, e.Servers[4].Got = 11, 4, true, []int{4}
		e.Post = []impl.Letter{asks(4, 0, 11, -1, 0), asks(4, 1, 11, -1, 0), asks(4, 2, 11, -1, 0), asks(4, 3, 11, -1, 0)}
	})
	wantElected(t, "one who stands already", polling(), elTimeout(0), func(e *impl.Election) {
		e.Servers[0].Term = 13
		e.Post = append(e.Post, asks(0, 1, 13, 2, 2), asks(0, 2, 13, 2, 2))
	})
	many := changedElection(func(e *impl.Election) { e.Servers[0].Got = []int{0, 2} })
	wantElected(t, "the votes of the older term go", many, elTimeout(0), func(e *impl.Election) {
		e.Servers[0].Term, e.Servers[0].Got = 13, []int{0}
		e.Post = append(e.Post, asks(0, 1, 13, 2, 2), asks(0, 2, 13, 2, 2))
	})
	wantElected(t, "one who voted for another", polling(), elTimeout(1), func(e *impl.Election) {
		e.Servers[1].Term, e.Servers[1].Voted, e.Servers[1].Stands, e.Servers[1].Got = 12, 1, true, []int{1}
		e.Post = append(e.Post, asks(1, 0, 12, 1, 1), asks(1, 2, 12, 1, 1))
	})
	wantNoStep(t, "one who leads", polling(), elTimeout(2))
	for _, k := range []int{-1, 3, 4, 5} {
		wantNoStep(t, "one who is not there", polling(), elTimeout(k))
	}
}

func TestTimeoutUpToMaxTerm(t *testing.T) {
	for _, stands := range []bool{false, true} {
		e := plainElection(nil, []int{100})
		e.Servers[1].Stands = stands
		e.Servers[1].Term = 99
		wantElected(t, "the last term", e, elTimeout(1), func(e *impl.Election) {
			e.Servers[1] = impl.Server{Term: 100, Voted: 1, Stands: true, Got: []int{1}, Log: []int{100}}
			e.Post = []impl.Letter{asks(1, 0, 100, 100, 1)}
		})
		e.Servers[1].Term = 100
		wantNoStep(t, "at MaxTerm", e, elTimeout(1))
	}
	alone := plainElection(nil)
	alone.Servers[0].Term = 100
	wantNoStep(t, "alone at MaxTerm", alone, elTimeout(0))
}

func TestTimeoutWhereThereIsRoomForAllLetters(t *testing.T) {
	for servers := 2; servers <= 5; servers++ {
		for letters := range 21 {
			e := withPost(servers, letters)
			got, ok := wantElectStep(t, "room", e, elTimeout(1))
			if room := letters+servers-1 <= 20; ok != room {
				t.Error(servers, letters, ok)
			}
			if ok && len(got.Post) != letters+servers-1 {
				t.Error(servers, letters, got)
			}
			if !ok {
				wantNoStep(t, "no room", e, elTimeout(1))
			}
		}
	}
}

func TestTimeoutOfASingleServer(t *testing.T) {
	e := plainElection([]int{3})
	wantElected(t, "it leads at once", e, elTimeout(0), func(e *impl.Election) {
		e.Servers[0] = impl.Server{Term: 11, Voted: 0, Leads: true, Got: []int{0}, Log: []int{3}}
		e.Led = []impl.Vote{{Term: 11, Leader: 0}}
	})
	e = electionAfter(e, elTimeout(0))
	wantNoStep(t, "it leads", e, elTimeout(0))
	e = electionAfter(e, elCrash(0))
	wantElected(t, "once more", e, elTimeout(0), func(e *impl.Election) {
		e.Servers[0].Term, e.Servers[0].Leads, e.Servers[0].Got = 12, true, []int{0}
		e.Led = []impl.Vote{{Term: 11, Leader: 0}, {Term: 12, Leader: 0}}
	})
	two, ok := impl.StepElection(plainElection(nil, nil), elTimeout(0))
	if !ok || two.Servers[0].Leads || !two.Servers[0].Stands || len(two.Led) != 0 {
		t.Error("one of two is not more than half", two, ok)
	}
}

func TestLedHasAtMostSoMany(t *testing.T) {
	last := withLed(1, 79)
	wantElected(t, "the last one", last, elTimeout(0), func(e *impl.Election) {
		e.Servers[0] = impl.Server{Term: 11, Voted: 0, Leads: true, Got: []int{0}}
		e.Led = append(e.Led, impl.Vote{Term: 11})
	})
	wantNoStep(t, "one too many", withLed(1, 80), elTimeout(0))
	for led, done := range map[int]bool{78: true, 79: true, 80: false} {
		e := changedElection(func(e *impl.Election) {
			e.Led = slices.Repeat(e.Led, led)
			e.Servers[1].Term = 12
			e.Post = []impl.Letter{answers(1, 0, 12, true), answers(1, 0, 12, false)}
		})
		got, ok := wantElectStep(t, "by an answer", e, elTake(0))
		if ok != done || ok && (len(got.Led) != led+1 || got.Led[led] != impl.Vote{Term: 12, Leader: 0}) {
			t.Error(led, got, ok)
		}
		if _, ok := wantElectStep(t, "nobody comes to lead", e, elTake(1)); !ok {
			t.Error(led)
		}
		if _, ok := wantElectStep(t, "it leaves", e, elLose(0)); !ok {
			t.Error(led)
		}
	}
}

func TestTakeALetterOfAGreaterTerm(t *testing.T) {
	for _, c := range []struct {
		why string
		to  impl.Server
	}{
		{"one who does neither", impl.Server{Term: 11, Voted: 2, Log: []int{2}}},
		{"one who did not vote", impl.Server{Term: 11, Voted: -1, Log: []int{2}}},
		{"one who stands", impl.Server{Term: 11, Voted: 1, Stands: true, Got: []int{1, 2}, Log: []int{2}}},
		{"one who leads", impl.Server{Term: 11, Voted: 1, Leads: true, Got: []int{0, 1, 2}, Log: []int{2}}},
		{"one far behind", impl.Server{Term: 0, Voted: 2, Log: []int{2}}},
	} {
		e := plainElection([]int{2}, nil, nil)
		e.Servers[0].Term = 12
		e.Servers[1] = c.to
		e.Post = []impl.Letter{asks(0, 1, 12, 2, 1), asks(0, 1, 12, 2, 0), answers(0, 1, 12, true), answers(0, 1, 12, false)}
		wantElected(t, c.why+": it votes", e, elTake(0), func(e *impl.Election) {
			e.Servers[1] = impl.Server{Term: 12, Voted: 0, Log: []int{2}}
			e.Post = append(e.Post[1:], answers(1, 0, 12, true))
		})
		wantElected(t, c.why+": it has the term, and does not vote", e, elTake(1), func(e *impl.Election) {
			e.Servers[1] = impl.Server{Term: 12, Voted: -1, Log: []int{2}}
			e.Post = append(slices.Delete(e.Post, 1, 2), answers(1, 0, 12, false))
		})
		for k := 2; k < 4; k++ {
			wantElected(t, c.why+": an answer", e, elTake(k), func(e *impl.Election) {
				e.Servers[1] = impl.Server{Term: 12, Voted: -1, Log: []int{2}}
				e.Post = slices.Delete(e.Post, k, k+1)
			})
		}
	}
}

func TestTakeALetterThatAsks(t *testing.T) {
	for _, c := range []struct {
		why        string
		voted      int
		term       int
		last, long int
		grant      bool
	}{
		{"nobody yet, as up to date", -1, 11, 2, 2, true},
		{"nobody yet, more entries", -1, 11, 2, 3, true},
		{"nobody yet, a greater last term", -1, 11, 3, 1, true},
		{"nobody yet, fewer entries", -1, 11, 2, 1, false},
		{"nobody yet, a lesser last term", -1, 11, 1, 30, false},
		{"nobody yet, no entries", -1, 11, -1, 0, false},
		{"From already", 0, 11, 2, 2, true},
		{"From already, not up to date", 0, 11, 2, 1, false},
		{"another one", 2, 11, 2, 2, false},
		{"another one, far ahead", 2, 11, 100, 30, false},
		{"itself", 1, 11, 100, 30, false},
		{"an older term, nobody", -1, 10, 2, 2, false},
		{"an older term, From", 0, 10, 2, 2, false},
		{"an older term, another one", 2, 10, 100, 30, false},
		{"the term 0", -1, 0, 100, 30, false},
	} {
		e := plainElection([]int{7, 7, 7}, []int{1, 2}, nil)
		e.Servers[0].Term, e.Servers[1].Term, e.Servers[1].Voted = 12, 11, c.voted
		e.Post = []impl.Letter{answers(2, 0, 10, false), asks(0, 1, c.term, c.last, c.long), asks(2, 1, 9, 2, 2)}
		wantElected(t, c.why, e, elTake(1), func(e *impl.Election) {
			if c.grant {
				e.Servers[1].Voted = 0
			}
			e.Post = []impl.Letter{e.Post[0], e.Post[2], answers(1, 0, 11, c.grant)}
		})
	}
}

// What is told of a log is taken, not the log that From has.
func TestTheLetterTellsTheLog(t *testing.T) {
	e := plainElection([]int{5, 5}, []int{3}, nil)
	e.Post = []impl.Letter{asks(0, 1, 10, 2, 2), asks(2, 1, 10, 3, 1), asks(0, 2, 10, -1, 0)}
	for k, grant := range []bool{false, true, true} {
		got, ok := wantElectStep(t, "told", e, elTake(k))
		if !ok || got.Post[2].Grant != grant {
			t.Error(k, got, ok)
		}
	}
}

// The letter that leaves makes the room for its answer.
func TestTakeALetterWhereThereIsRoomForTheAnswer(t *testing.T) {
	for _, many := range []int{1, 2, 19, 20} {
		e := plainElection(nil, nil, nil)
		e.Post = slices.Repeat([]impl.Letter{asks(0, 1, 10, -1, 0)}, many)
		wantElected(t, "the answer goes", e, elTake(many-1), func(e *impl.Election) {
			e.Servers[1].Voted = 0
			e.Post[many-1] = answers(1, 0, 10, true)
		})
		wantElected(t, "it goes behind all", e, elTake(0), func(e *impl.Election) {
			e.Servers[1].Voted = 0
			e.Post = append(e.Post[1:], answers(1, 0, 10, true))
		})
	}
	e := plainElection(nil, nil, nil)
	e.Post = slices.Repeat([]impl.Letter{asks(0, 1, 10, -1, 0)}, 21)
	if got, ok := impl.StepElection(e, elTake(0)); ok || !sameElection(got, impl.Election{}) {
		t.Error("one too many", got, ok)
	}
}

func TestTakeAnAnswer(t *testing.T) {
	for _, c := range []struct {
		why   string
		to    impl.Server
		from  int
		term  int
		grant bool
		got   []int
		leads bool
	}{
		{"the second of five", impl.Server{Term: 11, Stands: true, Got: []int{2}}, 0, 11, true, []int{0, 2}, false},
		{"the third of five", impl.Server{Term: 11, Stands: true, Got: []int{0, 2}}, 4, 11, true, []int{0, 2, 4}, true},
		{"between the others", impl.Server{Term: 11, Stands: true, Got: []int{0, 2}}, 1, 11, true, []int{0, 1, 2}, true},
		{"one who voted already", impl.Server{Term: 11, Stands: true, Got: []int{1, 2}}, 1, 11, true, []int{1, 2}, false},
		{"the first of five", impl.Server{Term: 11, Stands: true}, 3, 11, true, []int{3}, false},
		{"more than half already", impl.Server{Term: 11, Stands: true, Got: []int{0, 1, 2}}, 0, 11, true, []int{0, 1, 2}, true},
		{"without Grant", impl.Server{Term: 11, Stands: true, Got: []int{0, 2}}, 4, 11, false, []int{0, 2}, false},
		{"of an older term", impl.Server{Term: 11, Stands: true, Got: []int{0, 2}}, 4, 10, true, []int{0, 2}, false},
		{"of an older term, without", impl.Server{Term: 11, Stands: true, Got: []int{0, 2}}, 4, 10, false, []int{0, 2}, false},
		{"one who does not stand", impl.Server{Term: 11}, 4, 11, true, nil, false},
	} {
		e := plainElection(make([][]int, 5)...)
		for k := range e.Servers {
			e.Servers[k].Term = 11
		}
		c.to.Voted = 2
		e.Servers[2] = c.to
		e.Post = []impl.Letter{asks(0, 2, 9, 5, 5), answers(c.from, 2, c.term, c.grant)}
		e.Led = []impl.Vote{{Term: 9, Leader: 1}}
		wantElected(t, c.why, e, elTake(1), func(e *impl.Election) {
			e.Post = e.Post[:1]
			e.Servers[2].Got = c.got
			if c.leads {
				e.Servers[2].Stands, e.Servers[2].Leads = false, true
				e.Led = append(e.Led, impl.Vote{Term: 11, Leader: 2})
			}
		})
	}
}

func TestTakeAnAnswerWhereItLeads(t *testing.T) {
	e := electionAfter(plainElection(nil, nil, nil), elTimeout(1), elTake(0), elTake(0), elTake(0))
	if !e.Servers[1].Leads || len(e.Post) != 1 {
		t.Fatal(e)
	}
	wantElected(t, "one more vote", e, elTake(0), func(e *impl.Election) { e.Post = nil })
}

func TestHowManyVotesAreMoreThanHalf(t *testing.T) {
	for servers, need := range map[int]int{1: 1, 2: 2, 3: 2, 4: 3, 5: 3} {
		e := electionAfter(plainElection(make([][]int, servers)...), elTimeout(0))
		votes := 1
		for !e.Servers[0].Leads {
			e = electionAfter(e, elTake(0))
			next, ok := impl.StepElection(e, elTake(len(e.Post)-1))
			if !ok {
				t.Fatal(servers, e)
			}
			votes++
			if next.Servers[0].Leads != (votes == need) || len(next.Servers[0].Got) != votes {
				t.Error(servers, votes, next)
			}
			e = next
		}
		if votes != need {
			t.Error(servers, votes)
		}
	}
}

func TestLoseAndTwice(t *testing.T) {
	for k := range 3 {
		wantElected(t, "lost", polling(), elLose(k), func(e *impl.Election) { e.Post = slices.Delete(e.Post, k, k+1) })
		wantElected(t, "twice", polling(), elTwice(k), func(e *impl.Election) { e.Post = append(e.Post, e.Post[k]) })
	}
	e := withPost(3, 19)
	e.Post[7] = asks(2, 1, 4, 30, 3)
	wantElected(t, "just room", e, elTwice(7), func(e *impl.Election) { e.Post = append(e.Post, e.Post[7]) })
	e.Post = append(e.Post, answers(1, 2, 0, false))
	for _, k := range []int{0, 7, 19} {
		wantNoStep(t, "no room", e, elTwice(k))
		wantElected(t, "lost of as many as may be", e, elLose(k), func(e *impl.Election) { e.Post = slices.Delete(e.Post, k, k+1) })
	}
}

func TestLettersThatAreNotThere(t *testing.T) {
	for why, e := range someElections() {
		for _, k := range []int{-1, len(e.Post), len(e.Post) + 1, 20, 21} {
			if k >= 0 && k < len(e.Post) {
				continue
			}
			for _, x := range []impl.ElectStep{elTake(k), elLose(k), elTwice(k)} {
				wantNoStep(t, why, e, x)
			}
		}
	}
}

func TestCrash(t *testing.T) {
	wantElected(t, "one who stands", polling(), elCrash(0), func(e *impl.Election) {
		e.Servers[0] = impl.Server{Term: 12, Voted: 0, Log: []int{1, 2}}
	})
	wantElected(t, "one who leads", polling(), elCrash(2), func(e *impl.Election) {
		e.Servers[2] = impl.Server{Term: 11, Voted: 2, Log: []int{1, 2, 2}}
	})
	wantElected(t, "one who does neither", polling(), elCrash(1), func(e *impl.Election) {})
	wantElected(t, "a new one", plainElection(nil, nil), elCrash(1), func(e *impl.Election) {})
	for _, k := range []int{-1, 3, 4, 5} {
		wantNoStep(t, "one who is not there", polling(), elCrash(k))
	}
}

// A server that voted, and fell, gives no other one its vote of that term, but the
// same one once more.
func TestAVoteIsKeptOverACrash(t *testing.T) {
	logs := [][]int{{1}, {1}, {1}}
	voted := []impl.ElectStep{elTimeout(0), elTake(0), elCrash(1)}
	e, did, ok := impl.PlayElection(logs, append(slices.Clone(voted), elTimeout(2), elTake(3)))
	if !ok || slices.Contains(did, false) || e.Servers[1].Voted != 0 || e.Servers[1].Term != 11 {
		t.Fatal(e, did, ok)
	}
	if last := e.Post[len(e.Post)-1]; last != answers(1, 2, 11, false) {
		t.Error("another one", last)
	}
	e, did, ok = impl.PlayElection(logs, []impl.ElectStep{elTimeout(0), elTwice(0), elTake(0), elCrash(1), elTake(1)})
	if !ok || slices.Contains(did, false) || e.Post[len(e.Post)-1] != answers(1, 0, 11, true) {
		t.Error("the same one", e, did, ok)
	}
	e, did, ok = impl.PlayElection(logs, []impl.ElectStep{elTimeout(0), elTimeout(1), elCrash(1), elTake(0)})
	if !ok || slices.Contains(did, false) || e.Servers[1].Voted != 1 || e.Post[len(e.Post)-1] != answers(1, 0, 11, false) {
		t.Error("its own", e, did, ok)
	}
	e, did, ok = impl.PlayElection(logs, []impl.ElectStep{elTimeout(0), elTake(0), elCrash(0), elTake(1)})
	if !ok || slices.Contains(did, false) || e.Servers[0].Leads || len(e.Led) != 0 {
		t.Error("what was asked ahead of the crash is not taken for a vote", e, did, ok)
	}
}

func TestElectionStepsThatAreNone(t *testing.T) {
	for why, e := range someElections() {
		for k := -1; k <= 21; k++ {
			for _, kind := range []int{-1, 0, 6, 7, 100} {
				wantNoStep(t, why+": no such kind", e, impl.ElectStep{Kind: kind, K: k})
			}
		}
	}
}

func TestPlayElection(t *testing.T) {
	logs := [][]int{{1, 2}, {1}, {1, 2, 2}}
	e, did, ok := impl.PlayElection(logs, nil)
	if !ok || len(did) != 0 || !sameElection(e, plainElection(logs...)) {
		t.Error("no step", e, did, ok)
	}
	l := []impl.ElectStep{elTake(0), elTimeout(0), elTimeout(3), elTwice(0), elTake(1), elLose(3), elTake(1), {}, elTake(0), elTake(1), elCrash(2), elTimeout(0), elCrash(-1)}
	e, did, ok = impl.PlayElection(logs, l)
	want := impl.Election{
		Servers: []impl.Server{
			{Term: 11, Voted: 0, Leads: true, Got: []int{0, 1}, Log: []int{1, 2}},
			{Term: 11, Voted: 0, Log: []int{1}},
			{Term: 11, Voted: -1, Log: []int{1, 2, 2}},
		},
		Post: []impl.Letter{answers(2, 0, 11, false), answers(1, 0, 11, true)},
		Led:  []impl.Vote{{Term: 11, Leader: 0}},
	}
	if !ok || !sameElection(e, want) || !slices.Equal(did, []bool{false, true, false, true, true, false, true, false, true, true, true, false, false}) {
		t.Error(e, did, ok)
	}
}

func TestPlayElectionOfAtMostSoManySteps(t *testing.T) {
	l := slices.Repeat([]impl.ElectStep{elTimeout(0), elCrash(0)}, 41)
	for _, many := range []int{0, 1, 2, 79, 80} {
		e, did, ok := impl.PlayElection([][]int{{3}}, l[:many])
		if !ok || len(did) != many || slices.Contains(did, false) || len(e.Led) != (many+1)/2 {
			t.Error(many, e, did, ok)
		}
		wantElectPlay(t, "steps", [][]int{{3}}, l[:many])
	}
	for _, l := range [][]impl.ElectStep{l[:81], l[:82], make([]impl.ElectStep, 81)} {
		if e, did, ok := impl.PlayElection([][]int{{3}}, l); ok || len(did) != 0 || !sameElection(e, impl.Election{}) {
			t.Error("one more", e, did, ok)
		}
	}
	e, did, ok := impl.PlayElection([][]int{{3}, nil}, make([]impl.ElectStep, 80))
	if !ok || !slices.Equal(did, make([]bool, 80)) || !sameElection(e, plainElection([]int{3}, nil)) {
		t.Error("none is done", e, did, ok)
	}
	for _, logs := range [][][]int{nil, {}, make([][]int, 6), {{11}}, {{1}, {2, 1}}, {{-1}, nil}} {
		if e, did, ok := impl.PlayElection(logs, l[:4]); ok || len(did) != 0 || !sameElection(e, impl.Election{}) {
			t.Error(logs, e, did, ok)
		}
	}
}

func TestLeaderOf(t *testing.T) {
	e := plainElection(nil, nil, nil)
	e.Led = []impl.Vote{{Term: 12, Leader: 2}, {Term: 11, Leader: 1}, {Term: 12, Leader: 0}, {Term: 100, Leader: 1}, {Term: 0, Leader: 2}}
	for term, leader := range map[int]int{12: 2, 11: 1, 100: 1, 0: 2} {
		if got, ok := impl.LeaderOf(e, term); got != leader || !ok {
			t.Error(term, got, ok)
		}
	}
	for _, term := range []int{-1, 1, 10, 13, 99, 101} {
		if got, ok := impl.LeaderOf(e, term); got != 0 || ok {
			t.Error(term, got, ok)
		}
	}
	for _, term := range []int{0, 10, 11} {
		if got, ok := impl.LeaderOf(plainElection(nil), term); got != 0 || ok {
			t.Error("nobody led", term, got, ok)
		}
	}
}

func TestMayLead(t *testing.T) {
	for _, c := range []struct {
		logs [][]int
		may  []bool
	}{
		{[][]int{nil}, []bool{true}},
		{[][]int{nil, nil}, []bool{true, true}},
		{[][]int{{1}, nil}, []bool{true, false}},
		{[][]int{{1, 2}, {1}, {1, 2, 2}}, []bool{true, false, true}},
		{[][]int{{1}, {1, 1}, {2}, {1}}, []bool{false, true, true, false}},
		{[][]int{{1}, {2}, {3}, {4}, {5}}, []bool{false, false, true, true, true}},
		{[][]int{{5}, {5}, {4, 4}, {4, 4}, {4, 4}}, []bool{true, true, true, true, true}},
		{[][]int{{5}, {5}, {5}, {4, 4}, {4, 4}}, []bool{true, true, true, false, false}},
		{[][]int{{5, 5}, {5}, {5}, nil, nil}, []bool{true, true, true, false, false}},
	} {
		e := plainElection(c.logs...)
		for k, may := range c.may {
			if got, ok := impl.MayLead(e, k); got != may || !ok {
				t.Error(c.logs, k, got, ok)
			}
		}
		for _, k := range []int{-1, len(c.logs), 5, 6} {
			if got, ok := impl.MayLead(e, k); got || ok {
				t.Error(c.logs, k, got, ok)
			}
		}
	}
	if got, ok := impl.MayLead(polling(), 0); !got || !ok {
		t.Error("its state is not asked", got, ok)
	}
}

func TestRandomElectionsAndSteps(t *testing.T) {
	r := newRandom()
	for range 300 {
		wantElectSteps(t, "random", randomElection(r))
	}
}

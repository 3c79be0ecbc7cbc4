package tests

import (
	"fmt"
	"slices"
	"testing"

	"loop.example/g00361/impl"
)

// Chapter 11, function by function and step by step. That what was committed is kept
// stands in l11_kept_test.go.

// wantIsr holds all answers of a group but its steps against what the plain words
// tell.
func wantIsr(t *testing.T, why string, g impl.Group) {
	t.Helper()
	if got, want := impl.GoodGroup(g), plainIsrGood(g); got != want {
		t.Errorf("%s: GoodGroup %v: %v", why, g, got)
	}
	committed, wanted := plainCommittedRows(g)
	if got, ok := impl.CommittedRows(g); !slices.Equal(got, committed) || ok != wanted {
		t.Errorf("%s: CommittedRows %v: %v %v", why, g, got, ok)
	}
	for k := -1; k <= 5; k++ {
		want, wanted := plainLag(g, k)
		if got, ok := impl.LagIn(g, k); got != want || ok != wanted {
			t.Errorf("%s: LagIn %v %d: %v %v", why, g, k, got, ok)
		}
	}
	settled, more, wanted := plainSettle(g)
	got, up, ok := impl.SettleGroup(g)
	if !sameIsr(got, settled) || up != more || ok != wanted {
		t.Errorf("%s: SettleGroup %v: %v %v %v", why, g, got, up, ok)
	}
	if ok && !impl.GoodGroup(got) {
		t.Errorf("%s: SettleGroup %v: not good: %v", why, g, got)
	}
}

// wantIsrStep does so of a step, and tells where it leads.
func wantIsrStep(t *testing.T, why string, g impl.Group, x impl.IsrStep) (impl.Group, bool) {
	t.Helper()
	want, wanted := plainIsrStep(g, x)
	got, ok := impl.StepGroup(g, x)
	if !sameIsr(got, want) || ok != wanted {
		t.Errorf("%s: StepGroup %v %v: %v %v", why, g, x, got, ok)
	}
	if ok && !impl.GoodGroup(got) {
		t.Errorf("%s: StepGroup %v %v: not good: %v", why, g, x, got)
	}
	return got, ok
}

func wantIsrSteps(t *testing.T, why string, g impl.Group) {
	t.Helper()
	wantIsr(t, why, g)
	for _, x := range isrStepsOn(g) {
		wantIsrStep(t, why, g, x)
	}
}

// wantIsrChanged asks of a step that it leads to a group as the change tells.
func wantIsrChanged(t *testing.T, why string, g impl.Group, x impl.IsrStep, change func(g *impl.Group)) {
	t.Helper()
	want := copyOfIsr(g)
	change(&want)
	if got, ok := impl.StepGroup(g, x); !ok || !sameIsr(got, want) {
		t.Errorf("%s: StepGroup %v %v: %v %v", why, g, x, got, ok)
	}
}

// wantNoIsrStep asks that nothing is handed out of a step of a good group.
func wantNoIsrStep(t *testing.T, why string, g impl.Group, x impl.IsrStep) {
	t.Helper()
	if !impl.GoodGroup(g) {
		t.Errorf("%s: not good: %v", why, g)
	}
	if got, ok := impl.StepGroup(g, x); ok || !sameIsr(got, impl.Group{}) {
		t.Errorf("%s: StepGroup %v %v: %v %v", why, g, x, got, ok)
	}
}

func wantIsrPlay(t *testing.T, why string, replicas int, l []impl.IsrStep) {
	t.Helper()
	want, wantDid, wanted := plainIsrPlay(replicas, l)
	got, did, ok := impl.PlayGroup(replicas, l)
	if !sameIsr(got, want) || !slices.Equal(did, wantDid) || ok != wanted {
		t.Errorf("%s: PlayGroup %d %v: %v %v %v", why, replicas, l, got, did, ok)
	}
}

func TestTheNamedNumbersOfIsr(t *testing.T) {
	got := []int{impl.MaxReplicas, impl.MaxIsrSteps, impl.MaxRows, impl.IsElect, impl.IsAppend, impl.IsFetch, impl.IsShrink, impl.IsExpand, impl.IsRaise}
	if !slices.Equal(got, []int{4, 100, 30, 1, 2, 3, 4, 5, 6}) {
		t.Error(got)
	}
}

func TestNewGroup(t *testing.T) {
	for replicas := 2; replicas <= 4; replicas++ {
		g, ok := impl.NewGroup(replicas)
		if !ok || g.Epoch != 0 || g.Leader != 0 || g.High != 0 || !slices.Equal(g.InStep, steps(replicas, 0, 1)) || !impl.GoodGroup(g) {
			t.Error(replicas, g, ok)
		}
		if len(g.Replicas) != replicas {
			t.Error(replicas, g, ok)
		}
		for k, r := range g.Replicas {
			if len(r.Log) != 0 || r.Epoch != 0 || r.Known != 0 {
				t.Error(replicas, k, r)
			}
		}
	}
	for _, replicas := range []int{-2, -1, 0, 1, 5, 6} {
		if g, ok := impl.NewGroup(replicas); ok || !sameIsr(g, impl.Group{}) {
			t.Error(replicas, g, ok)
		}
	}
}

// keeping is a group of four, led by 1: 2 is in step with it, 3 is behind, and 0
// knows as much as it does of an elder leader's rows alone.
func keeping() impl.Group {
	return impl.Group{
		Epoch: 4, Leader: 1, InStep: []int{1, 2}, High: 2,
		Replicas: []impl.Replica{
			{Log: rows(1, 1, 2, 2, 3), Epoch: 3, Known: 5},
			{Log: rows(1, 1, 3, 4), Epoch: 4, Known: 4},
			{Log: rows(1, 1, 3), Epoch: 4, Known: 3},
			{Log: rows(1), Epoch: 4, Known: 1},
		},
	}
}

func changedIsr(change func(g *impl.Group)) impl.Group {
	g := keeping()
	change(&g)
	return g
}

// allFull has logs of as many rows as may be, all but one in step.
func allFull() impl.Group {
	g := plainIsr(3)
	g.Epoch, g.Leader, g.InStep, g.High = 100, 2, []int{0, 2}, 30
	for k := range g.Replicas {
		g.Replicas[k] = impl.Replica{Log: manyRows(30, 7), Epoch: 100, Known: 30}
	}
	g.Replicas[1].Log[29].Value = 0
	g.Replicas[1].Known = 29
	return g
}

func someIsr() map[string]impl.Group {
	all := map[string]impl.Group{
		"new, of two":   plainIsr(2),
		"new, of three": plainIsr(3),
		"new, of four":  plainIsr(4),
		"keeping":       keeping(),
		"all full":      allFull(),
		"settled":       isrAfter(plainIsr(2), isAppend(7), isFetch(1, 1), isRaise()),
		"led anew":      isrAfter(plainIsr(3), isAppend(7), isFetch(1, 1), isElect(1)),
	}
	for why, change := range goodIsrChanges() {
		all[why] = changedIsr(change)
	}
	return all
}

// goodIsrChanges each leave keeping good.
func goodIsrChanges() map[string]func(g *impl.Group) {
	return map[string]func(g *impl.Group){
		"no rows behind":                  func(g *impl.Group) { g.Replicas[3] = impl.Replica{} },
		"no rows at all":                  func(g *impl.Group) { g.Replicas, g.High = make([]impl.Replica, 4), 0 },
		"as many rows":                    func(g *impl.Group) { g.Replicas[3] = impl.Replica{Log: manyRows(30, 4)} },
		"as many but one":                 func(g *impl.Group) { g.Replicas[3] = impl.Replica{Log: manyRows(29, 4)} },
		"as many that are led":            func(g *impl.Group) { *g = ledFrom(manyRows(30, 4)) },
		"as many but one that are led":    func(g *impl.Group) { *g = ledFrom(manyRows(29, 4)) },
		"a row of Epoch 0":                func(g *impl.Group) { g.Replicas[0].Log[0].Epoch = 0 },
		"a row of the group's Epoch":      func(g *impl.Group) { g.Replicas[0].Log[4].Epoch = 4 },
		"a row above its replica's Epoch": func(g *impl.Group) { g.Replicas[0].Epoch = 0 },
		"a Value of 0":                    func(g *impl.Group) { g.Replicas[0].Log[4].Value = 0 },
		"a Value of 99":                   func(g *impl.Group) { g.Replicas[0].Log[4].Value = 99 },
		"a leader's Value of 99":          func(g *impl.Group) { g.Replicas[1].Log[3].Value = 99 },
		"a replica's Epoch of 0":          func(g *impl.Group) { g.Replicas[3].Epoch = 0 },
		"a replica's Epoch of the group":  func(g *impl.Group) { g.Replicas[0].Epoch, g.Replicas[0].Known = 4, 2 },
		"a leader's Epoch of 0":           func(g *impl.Group) { g.Replicas[1].Epoch = 0 },
		"one in step of an elder Epoch":   func(g *impl.Group) { g.Replicas[2].Epoch = 3 },
		"a Known of 0":                    func(g *impl.Group) { g.Replicas[2].Known = 0 },
		"a leader's Known of 0":           func(g *impl.Group) { g.Replicas[1].Known = 0 },
		"an elder Known of 0":             func(g *impl.Group) { g.Replicas[0].Known = 0 },
		"an elder Known of what it has":   func(g *impl.Group) { g.Replicas[0].Known = 5 },
		"a Known of all shared":           func(g *impl.Group) { g.Replicas[0].Epoch, g.Replicas[0].Known = 4, 2 },
		"a Known of one less":             func(g *impl.Group) { g.Replicas[0].Epoch, g.Replicas[0].Known = 4, 1 },
		"a Known in step below High":      func(g *impl.Group) { g.Replicas[2].Known = 1 },
		"the group's Epoch of MaxEpoch":   func(g *impl.Group) { g.Epoch = 100 },
		"the group's Epoch of one more":   func(g *impl.Group) { g.Epoch = 5 },
		"the group's Epoch of 0":          func(g *impl.Group) { *g = withEpochs(*g, 0) },
		"another leader":                  func(g *impl.Group) { g.Leader, g.Replicas[1].Known = 2, 3 },
		"the leader alone in step":        func(g *impl.Group) { g.InStep = []int{1} },
		"the leader alone, all committed": func(g *impl.Group) { g.InStep, g.High = []int{1}, 4 },
		"one in step that is elder":       func(g *impl.Group) { g.InStep = []int{0, 1, 2} },
		"all in step":                     func(g *impl.Group) { g.InStep, g.High = []int{0, 1, 2, 3}, 1 },
		"a High of 0":                     func(g *impl.Group) { g.High = 0 },
		"a High of what is shared":        func(g *impl.Group) { g.High = 3 },
		"two replicas":                    func(g *impl.Group) { g.Replicas, g.InStep = g.Replicas[:2], []int{1} },
		"three replicas":                  func(g *impl.Group) { g.Replicas = g.Replicas[:3] },
	}
}

// ledFrom is keeping with another log of the leader; it alone is in step.
func ledFrom(log []impl.Row) impl.Group {
	g := keeping()
	g.InStep, g.High = []int{1}, len(log)
	for k := range g.Replicas {
		g.Replicas[k].Epoch = 3
	}
	g.Replicas[1] = impl.Replica{Log: log, Epoch: 4, Known: len(log)}
	return g
}

// withEpochs has one epoch everywhere.
func withEpochs(g impl.Group, epoch int) impl.Group {
	g.Epoch = epoch
	for k := range g.Replicas {
		r := &g.Replicas[k]
		r.Epoch = epoch
		for i := range r.Log {
			r.Log[i].Epoch = epoch
		}
		r.Known = plainShared(r.Log, g.Replicas[1].Log[:2])
	}
	g.Replicas[1].Known, g.Replicas[2].Known = 4, 3
	return g
}

func badIsr() map[string]impl.Group {
	all := map[string]impl.Group{
		"nothing at all":                 {},
		"no replica":                     plainIsr(0),
		"one replica":                    plainIsr(1),
		"five replicas":                  plainIsr(5),
		"five, four of them in step":     {InStep: []int{0, 1, 2, 3}, Replicas: make([]impl.Replica, 5)},
		"no replica, a leader in step":   {InStep: []int{0}},
		"two replicas, nobody is InStep": {Replicas: make([]impl.Replica, 2)},
		"High above empty logs":          {InStep: []int{0, 1}, High: 1, Replicas: make([]impl.Replica, 2)},
	}
	for why, change := range badIsrChanges() {
		all[why] = changedIsr(change)
	}
	for why, l := range badRows() {
		for k := range 4 {
			all[fmt.Sprint("a log ", k, ": ", why)] = changedIsr(func(g *impl.Group) {
				g.Epoch, g.High, g.InStep = 100, 0, []int{1}
				g.Replicas[k] = impl.Replica{Log: l}
			})
		}
	}
	return all
}

// badRows are good in no replica.
func badRows() map[string][]impl.Row {
	return map[string][]impl.Row{
		"one row too many":           manyRows(31, 4),
		"many too many":              manyRows(300, 4),
		"Epochs that fall":           rows(1, 2, 1),
		"Epochs that fall at once":   rows(2, 1),
		"Epochs that fall later":     rows(0, 1, 2, 3, 3, 2),
		"an Epoch below 0":           rows(-1),
		"an Epoch below 0, then 4":   rows(-1, 4),
		"an Epoch above MaxEpoch":    rows(1, 101),
		"a Value of -1":              {{Epoch: 1, Value: -1}},
		"a Value of 100":             {{Epoch: 1, Value: 100}},
		"the last Value of 100":      {{Epoch: 1, Value: 99}, {Epoch: 1, Value: 100}},
		"a Value of -1 among others": {{Epoch: 1}, {Epoch: 1, Value: -1}, {Epoch: 1}},
	}
}

// badIsrChanges each spoil keeping by one thing.
func badIsrChanges() map[string]func(g *impl.Group) {
	return map[string]func(g *impl.Group){
		"a row above the group's Epoch":      func(g *impl.Group) { g.Replicas[0].Log[4].Epoch = 5 },
		"a leader's row above it":            func(g *impl.Group) { g.Replicas[1].Log[3].Epoch = 5 },
		"the group's Epoch below its rows":   func(g *impl.Group) { *g = withEpochs(*g, 3); g.Replicas[0].Log[4].Epoch = 4 },
		"a replica's Epoch of -1":            func(g *impl.Group) { g.Replicas[3].Epoch = -1 },
		"an elder replica's Epoch of -1":     func(g *impl.Group) { g.Replicas[0].Epoch = -1 },
		"a leader's Epoch of -1":             func(g *impl.Group) { g.Replicas[1].Epoch = -1 },
		"a replica's Epoch of one more":      func(g *impl.Group) { g.Replicas[3].Epoch = 5 },
		"a leader's Epoch of one more":       func(g *impl.Group) { g.Replicas[1].Epoch = 5 },
		"a Known of -1":                      func(g *impl.Group) { g.Replicas[3].Known = -1 },
		"an elder Known of -1":               func(g *impl.Group) { g.Replicas[0].Known = -1 },
		"a leader's Known of -1":             func(g *impl.Group) { g.Replicas[1].Known = -1 },
		"a Known of one more":                func(g *impl.Group) { g.Replicas[2].Known = 4 },
		"an elder Known of one more":         func(g *impl.Group) { g.Replicas[0].Known = 6 },
		"a leader's Known of one more":       func(g *impl.Group) { g.Replicas[1].Known = 5 },
		"a leader's elder Known of one more": func(g *impl.Group) { g.Replicas[1].Epoch, g.Replicas[1].Known = 3, 5 },
		"a Known of no rows":                 func(g *impl.Group) { g.Replicas[3].Log = nil },
		"a Known above what it shares":       func(g *impl.Group) { g.Replicas[0].Epoch, g.Replicas[0].Known = 4, 3 },
		"a Known of all that it has":         func(g *impl.Group) { g.Replicas[0].Epoch = 4 },
		"a Known where nothing is shared":    func(g *impl.Group) { g.Replicas[3].Log[0].Value = 5 },
		"a Known above what is shared now":   func(g *impl.Group) { g.Leader = 2 },
		"the group's Epoch of -1":            func(g *impl.Group) { g.Epoch = -1 },
		"of -1, no rows":                     func(g *impl.Group) { *g = plainIsr(2); g.Epoch = -1 },
		"the group's Epoch above MaxEpoch":   func(g *impl.Group) { g.Epoch = 101 },
		"above MaxEpoch, no rows":            func(g *impl.Group) { *g = plainIsr(2); g.Epoch = 101 },
		"the group's Epoch of one less":      func(g *impl.Group) { g.Epoch = 3 },
		"a Leader of -1":                     func(g *impl.Group) { g.Leader = -1 },
		"a Leader who is not there":          func(g *impl.Group) { g.Leader = 4 },
		"a Leader of -1 who is InStep":       func(g *impl.Group) { g.Leader, g.InStep = -1, []int{-1, 1} },
		"a Leader in step, not there":        func(g *impl.Group) { g.Leader, g.InStep = 4, []int{1, 4} },
		"an InStep without the leader":       func(g *impl.Group) { g.InStep = []int{2} },
		"an InStep of all but the leader":    func(g *impl.Group) { g.InStep, g.High = []int{0, 2, 3}, 0 },
		"an InStep of nobody":                func(g *impl.Group) { g.InStep = nil },
		"an InStep that falls":               func(g *impl.Group) { g.InStep = []int{2, 1} },
		"an InStep with one twice":           func(g *impl.Group) { g.InStep = []int{1, 2, 2} },
		"an InStep with the leader twice":    func(g *impl.Group) { g.InStep = []int{1, 1} },
		"an InStep with -1":                  func(g *impl.Group) { g.InStep = []int{-1, 1, 2} },
		"an InStep with one not there":       func(g *impl.Group) { g.InStep = []int{1, 2, 4} },
		"an InStep with 64":                  func(g *impl.Group) { g.InStep = []int{1, 64} },
		"a High of -1":                       func(g *impl.Group) { g.High = -1 },
		"a High above what 2 shares":         func(g *impl.Group) { g.High = 4 },
		"a High above what 0 shares":         func(g *impl.Group) { g.InStep, g.High = []int{0, 1}, 3 },
		"a High above what 3 has":            func(g *impl.Group) { g.InStep = []int{1, 2, 3} },
		"a High above the leader's log":      func(g *impl.Group) { g.InStep, g.High = []int{1}, 5 },
		"a High far above":                   func(g *impl.Group) { g.High = 31 },
		"one replica left":                   func(g *impl.Group) { g.Replicas, g.Leader, g.InStep = g.Replicas[1:2], 0, []int{0} },
		"a replica more":                     func(g *impl.Group) { g.Replicas = append(g.Replicas, g.Replicas[3]) },
	}
}

func TestGoodIsr(t *testing.T) {
	for why, g := range someIsr() {
		if !impl.GoodGroup(g) || !plainIsrGood(g) {
			t.Error(why, g)
		}
		wantIsrSteps(t, why, g)
	}
}

func TestBadIsr(t *testing.T) {
	for why, g := range badIsr() {
		if impl.GoodGroup(g) || plainIsrGood(g) {
			t.Error(why, g)
		}
		for _, x := range isrStepsOn(g) {
			if got, ok := impl.StepGroup(g, x); ok || !sameIsr(got, impl.Group{}) {
				t.Error(why, x, got, ok)
			}
		}
		if l, ok := impl.CommittedRows(g); ok || len(l) != 0 {
			t.Error(why, l, ok)
		}
		for k := -1; k <= 4; k++ {
			if n, ok := impl.LagIn(g, k); ok || n != 0 {
				t.Error(why, k, n, ok)
			}
		}
		if got, up, ok := impl.SettleGroup(g); ok || up != 0 || !sameIsr(got, impl.Group{}) {
			t.Error(why, got, up, ok)
		}
	}
}

// fewReplicas are all of few rows and few numbers, and those right beside good ones.
func fewReplicas() []impl.Replica {
	var l []impl.Replica
	for _, log := range [][]impl.Row{nil, rows(0), rows(1), rows(0, 1), rows(1, 0), {{Value: 1}, {Epoch: 1, Value: 1}}} {
		for epoch := -1; epoch <= 2; epoch++ {
			for known := -1; known <= len(log)+1; known++ {
				l = append(l, impl.Replica{Log: log, Epoch: epoch, Known: known})
			}
		}
	}
	return l
}

func fewGroupsOf(l ...impl.Replica) []impl.Group {
	var all []impl.Group
	for leader := range l {
		for _, some := range [][]int{{0}, {1}, {0, 1}, {1, 0}} {
			for high := -1; high <= 3; high++ {
				all = append(all, impl.Group{Epoch: 1, Leader: leader, InStep: some, High: high, Replicas: l})
			}
		}
	}
	return all
}

func TestAllGroupsOfTwo(t *testing.T) {
	few := fewReplicas()
	good, not := 0, 0
	for _, a := range few {
		for _, b := range few {
			for _, g := range fewGroupsOf(a, b) {
				if !plainIsrGood(g) {
					not++
					if impl.GoodGroup(g) {
						t.Error(g)
					}
					continue
				}
				good++
				wantIsr(t, "two", g)
			}
		}
	}
	if good < 1000 || not < 1000 {
		t.Error("one kind alone", good, not)
	}
}

func TestIsrElect(t *testing.T) {
	g := keeping()
	wantIsrChanged(t, "another one in step", g, isElect(2), func(g *impl.Group) {
		g.Epoch, g.Leader = 5, 2
		g.Replicas[2].Epoch = 5
	})
	wantIsrChanged(t, "the leader itself", g, isElect(1), func(g *impl.Group) {
		g.Epoch, g.Replicas[1].Epoch = 5, 5
	})
	for _, k := range []int{0, 3} {
		wantNoIsrStep(t, "one who is not in step", g, isElect(k))
	}
	for _, k := range []int{-1, 4, 5} {
		wantNoIsrStep(t, "one who is not there", g, isElect(k))
	}
	g.Replicas[2].Known, g.Replicas[2].Epoch = 1, 2
	wantIsrChanged(t, "its Known is its log's length", g, isElect(2), func(g *impl.Group) {
		g.Epoch, g.Leader = 5, 2
		g.Replicas[2].Epoch, g.Replicas[2].Known = 5, 3
	})
	alone := keeping()
	alone.InStep = []int{1}
	wantIsrChanged(t, "the leader, alone", alone, isElect(1), func(g *impl.Group) {
		g.Epoch, g.Replicas[1].Epoch = 5, 5
	})
	wantNoIsrStep(t, "one who is in step no more", alone, isElect(2))
}

func TestIsrElectUpToMaxEpoch(t *testing.T) {
	for k := 1; k <= 2; k++ {
		g := keeping()
		g.Epoch = 99
		wantIsrChanged(t, "the last Epoch", g, isElect(k), func(g *impl.Group) {
			g.Epoch, g.Leader = 100, k
			g.Replicas[k].Epoch, g.Replicas[k].Known = 100, len(g.Replicas[k].Log)
		})
		g.Epoch = 100
		wantNoIsrStep(t, "one more", g, isElect(k))
	}
}

func TestIsrAppend(t *testing.T) {
	g := keeping()
	for _, n := range []int{0, 1, 98, 99} {
		wantIsrChanged(t, "a row", g, isAppend(n), func(g *impl.Group) {
			r := &g.Replicas[1]
			r.Log, r.Known = append(r.Log, impl.Row{Epoch: 4, Value: n}), 5
		})
	}
	for _, n := range []int{-2, -1, 100, 101} {
		wantNoIsrStep(t, "a Value beyond its limits", g, isAppend(n))
	}
	g.Epoch, g.Replicas[1].Known = 7, 0
	wantIsrChanged(t, "its Epoch is the group's, Known all", g, isAppend(9), func(g *impl.Group) {
		g.Replicas[1] = impl.Replica{Log: append(g.Replicas[1].Log, impl.Row{Epoch: 7, Value: 9}), Epoch: 7, Known: 5}
	})
	for many := range 31 {
		g := ledFrom(manyRows(many, 4))
		if many == 30 {
			wantNoIsrStep(t, "no room", g, isAppend(5))
			continue
		}
		wantIsrChanged(t, "with room", g, isAppend(5), func(g *impl.Group) {
			g.Replicas[1] = impl.Replica{Log: append(g.Replicas[1].Log, impl.Row{Epoch: 4, Value: 5}), Epoch: 4, Known: many + 1}
		})
	}
}

func TestIsrFetch(t *testing.T) {
	g := keeping()
	lead := g.Replicas[1].Log
	for _, c := range []struct{ k, shared int }{{0, 2}, {2, 3}, {3, 1}} {
		for _, n := range []int{0, 1, 2, 3, 4, 5, 29, 30} {
			many := min(len(lead), c.shared+n)
			wantIsrChanged(t, "up to so many", g, isFetch(c.k, n), func(g *impl.Group) {
				g.Replicas[c.k] = impl.Replica{Log: lead[:many], Epoch: 4, Known: many}
			})
		}
		for _, n := range []int{-2, -1, 31, 32} {
			wantNoIsrStep(t, "so many can't be", g, isFetch(c.k, n))
		}
	}
	for _, n := range []int{0, 1, 30} {
		wantNoIsrStep(t, "the leader", g, isFetch(1, n))
		for _, k := range []int{-1, 4, 5} {
			wantNoIsrStep(t, "one who is not there", g, isFetch(k, n))
		}
	}
}

func TestIsrFetchOfLogsThatPart(t *testing.T) {
	lead := []impl.Row{{Epoch: 0, Value: 1}, {Epoch: 0, Value: 2}, {Epoch: 2, Value: 3}, {Epoch: 2, Value: 4}}
	turnedAt := func(at int, to impl.Row) []impl.Row {
		l := slices.Clone(lead)
		l[at] = to
		return l
	}
	for _, c := range []struct {
		why    string
		log    []impl.Row
		shared int
	}{
		{"empty", nil, 0},
		{"its beginning, of one", lead[:1], 1},
		{"its beginning, of three", lead[:3], 3},
		{"the same", lead, 4},
		{"longer", append(slices.Clone(lead), impl.Row{Epoch: 2, Value: 5}), 4},
		{"the first Value", turnedAt(0, impl.Row{Epoch: 0, Value: 9}), 0},
		{"the second Value", turnedAt(1, impl.Row{Epoch: 0, Value: 9}), 1},
		{"the third Epoch", turnedAt(2, impl.Row{Epoch: 1, Value: 3}), 2},
		{"the last Value", turnedAt(3, impl.Row{Epoch: 2, Value: 9}), 3},
		{"the last Epoch", turnedAt(3, impl.Row{Epoch: 3, Value: 4}), 3},
		{"one left out", slices.Delete(slices.Clone(lead), 1, 2), 1},
		{"full and another", manyRows(30, 1), 0},
	} {
		g := impl.Group{Epoch: 3, InStep: []int{0}, High: 4, Replicas: []impl.Replica{{Log: lead, Epoch: 3, Known: 4}, {Log: c.log, Epoch: 1}}}
		for n := range 6 {
			many := min(4, c.shared+n)
			wantIsrChanged(t, c.why, g, isFetch(1, n), func(g *impl.Group) {
				g.Replicas[1] = impl.Replica{Log: lead[:many], Epoch: 3, Known: many}
			})
		}
		if n, ok := impl.LagIn(g, 1); !ok || n != 4-c.shared {
			t.Error(c.why, n, ok)
		}
	}
}

func TestIsrShrink(t *testing.T) {
	g := keeping()
	wantIsrChanged(t, "one in step", g, isShrink(2), func(g *impl.Group) { g.InStep = []int{1} })
	wantNoIsrStep(t, "the leader", g, isShrink(1))
	for _, k := range []int{0, 3} {
		wantNoIsrStep(t, "one who is not in step", g, isShrink(k))
	}
	for _, k := range []int{-1, 4, 5} {
		wantNoIsrStep(t, "one who is not there", g, isShrink(k))
	}
	for k := range 4 {
		for leader := range 4 {
			g := plainIsr(4)
			g.Leader = leader
			if k == leader {
				wantNoIsrStep(t, "the leader", g, isShrink(k))
				continue
			}
			wantIsrChanged(t, "of all", g, isShrink(k), func(g *impl.Group) { g.InStep = slices.Delete(g.InStep, k, k+1) })
		}
	}
}

func TestIsrExpand(t *testing.T) {
	g := keeping()
	for _, k := range []int{1, 2} {
		wantNoIsrStep(t, "one who is in step", g, isExpand(k))
	}
	for _, k := range []int{-1, 4, 5} {
		wantNoIsrStep(t, "one who is not there", g, isExpand(k))
	}
	wantNoIsrStep(t, "an elder Known of more than High", g, isExpand(0))
	wantNoIsrStep(t, "a Known of one less than High", g, isExpand(3))
	g.High = 1
	wantIsrChanged(t, "a Known of High", g, isExpand(3), func(g *impl.Group) { g.InStep = []int{1, 2, 3} })
	wantNoIsrStep(t, "an elder Known still", g, isExpand(0))
	g.High = 0
	wantIsrChanged(t, "a Known of more than High", g, isExpand(3), func(g *impl.Group) { g.InStep = []int{1, 2, 3} })
	wantNoIsrStep(t, "of an elder Epoch, though nothing is committed", g, isExpand(0))
	g.Replicas[0].Known = 0
	wantNoIsrStep(t, "nor with a Known of 0", g, isExpand(0))
	g.Replicas[0].Epoch = 4
	wantIsrChanged(t, "a Known of 0, as High is", g, isExpand(0), func(g *impl.Group) { g.InStep = []int{0, 1, 2} })
	g.High, g.Replicas[0].Known = 2, 2
	wantIsrChanged(t, "what it has behind does not count", g, isExpand(0), func(g *impl.Group) { g.InStep = []int{0, 1, 2} })
	g.Replicas[0].Known = 1
	wantNoIsrStep(t, "it shares High, but does not know it", g, isExpand(0))
}

func TestIsrExpandAmongOthers(t *testing.T) {
	for leader := range 4 {
		for bits := range 16 {
			if bits>>leader&1 == 0 {
				continue
			}
			g := plainIsr(4)
			g.Leader = leader
			g.InStep = slices.DeleteFunc(g.InStep, func(k int) bool { return bits>>k&1 == 0 })
			for k := range 4 {
				if bits>>k&1 == 1 {
					wantNoIsrStep(t, "in step already", g, isExpand(k))
					continue
				}
				wantIsrChanged(t, "it has its place", g, isExpand(k), func(g *impl.Group) {
					g.InStep = append(g.InStep, k)
					slices.Sort(g.InStep)
				})
			}
		}
	}
}

func TestIsrRaise(t *testing.T) {
	g := keeping()
	wantIsrChanged(t, "the least of both", g, isRaise(), func(g *impl.Group) { g.High = 3 })
	g.High = 3
	wantNoIsrStep(t, "nothing is more", g, isRaise())
	g.Replicas[2].Known = 2
	wantNoIsrStep(t, "less is known", g, isRaise())
	g.InStep = []int{1}
	wantIsrChanged(t, "the leader alone", g, isRaise(), func(g *impl.Group) { g.High = 4 })
	g.Replicas[1].Known = 3
	wantNoIsrStep(t, "the leader's Known counts", g, isRaise())
	g.Replicas[1].Known, g.Replicas[1].Epoch = 4, 3
	wantNoIsrStep(t, "the leader of an elder Epoch", g, isRaise())
	elder := keeping()
	elder.Replicas[2].Epoch = 3
	wantNoIsrStep(t, "one in step is of an elder Epoch", elder, isRaise())
	elder = keeping()
	elder.InStep, elder.High = []int{0, 1, 2}, 1
	wantNoIsrStep(t, "an elder one that knows more", elder, isRaise())
	elder.Replicas[0].Epoch, elder.Replicas[0].Known = 4, 2
	wantIsrChanged(t, "it is of the group's Epoch now", elder, isRaise(), func(g *impl.Group) { g.High = 2 })
	behind := keeping()
	behind.High = 0
	wantIsrChanged(t, "those not in step do not count", behind, isRaise(), func(g *impl.Group) { g.High = 3 })
	behind.InStep = []int{1, 2, 3}
	wantIsrChanged(t, "the last one is the least", behind, isRaise(), func(g *impl.Group) { g.High = 1 })
	full := allFull()
	full.High = 29
	wantIsrChanged(t, "as many as may be", full, isRaise(), func(g *impl.Group) { g.High = 30 })
}

// Each of these is done where the field that it has no use for is zero.
func TestIsrStepsWithFieldsOfNoUse(t *testing.T) {
	g := keeping()
	g.High = 1
	for _, x := range []impl.IsrStep{isElect(2), isAppend(5), isShrink(2), isExpand(3), isRaise()} {
		if _, ok := wantIsrStep(t, "as it is", g, x); !ok {
			t.Error(x)
		}
		for _, n := range []int{-1, 1, 2, 3, 100} {
			if x.K == 0 {
				y := x
				y.K = n
				wantNoIsrStep(t, "a K", g, y)
			}
			if x.N == 0 {
				y := x
				y.N = n
				wantNoIsrStep(t, "an N", g, y)
			}
		}
	}
	wantNoIsrStep(t, "a K that is the leader", g, impl.IsrStep{Kind: impl.IsAppend, K: 1, N: 5})
}

func TestIsrStepsThatAreNone(t *testing.T) {
	for why, g := range someIsr() {
		for k := -1; k <= 4; k++ {
			for _, kind := range []int{-1, 0, 7, 8, 100} {
				for n := range 3 {
					wantNoIsrStep(t, why+": no such kind", g, impl.IsrStep{Kind: kind, K: k, N: n})
				}
			}
		}
	}
}

func TestPlayGroup(t *testing.T) {
	for replicas := 2; replicas <= 4; replicas++ {
		g, did, ok := impl.PlayGroup(replicas, nil)
		if !ok || len(did) != 0 || !sameIsr(g, plainIsr(replicas)) {
			t.Error("no step", g, did, ok)
		}
	}
	l := []impl.IsrStep{
		isRaise(), isAppend(7), isAppend(8), isFetch(0, 1), isFetch(1, 1), isFetch(2, 30), {}, isRaise(),
		isShrink(0), isShrink(1), isRaise(), isAppend(9), isElect(1), isElect(2), isAppend(5), isRaise(),
		isExpand(1), isFetch(1, 0), isExpand(1), isFetch(1, 1), isExpand(1), isFetch(0, 30), isRaise(), isAppend(100)}
	all := []impl.Row{{Value: 7}, {Value: 8}, {Epoch: 1, Value: 5}}
	want := impl.Group{
		Epoch: 1, Leader: 2, InStep: []int{0, 1, 2}, High: 2,
		Replicas: []impl.Replica{
			{Log: all, Epoch: 1, Known: 3},
			{Log: all[:2], Epoch: 1, Known: 2},
			{Log: all, Epoch: 1, Known: 3},
		},
	}
	g, did, ok := impl.PlayGroup(3, l)
	done := []bool{false, true, true, false, true, true, false, true, false, true, true, true, false, true, true, false,
		false, true, false, true, true, true, false, false}
	if !ok || !sameIsr(g, want) || !slices.Equal(did, done) {
		t.Error(g, did, ok)
	}
}

func TestPlayGroupOfAtMostSoManySteps(t *testing.T) {
	l := slices.Repeat([]impl.IsrStep{isElect(1)}, 102)
	for _, many := range []int{0, 1, 2, 99, 100} {
		g, did, ok := impl.PlayGroup(2, l[:many])
		if !ok || len(did) != many || slices.Contains(did, false) || g.Epoch != many {
			t.Error(many, g, did, ok)
		}
		wantIsrPlay(t, "steps", 2, l[:many])
	}
	for _, l := range [][]impl.IsrStep{l[:101], l[:102], make([]impl.IsrStep, 101)} {
		if g, did, ok := impl.PlayGroup(2, l); ok || len(did) != 0 || !sameIsr(g, impl.Group{}) {
			t.Error("one more", g, did, ok)
		}
	}
	g, did, ok := impl.PlayGroup(4, make([]impl.IsrStep, 100))
	if !ok || !slices.Equal(did, make([]bool, 100)) || !sameIsr(g, plainIsr(4)) {
		t.Error("none is done", g, did, ok)
	}
	for _, replicas := range []int{-1, 0, 1, 5, 6} {
		if g, did, ok := impl.PlayGroup(replicas, l[:4]); ok || len(did) != 0 || !sameIsr(g, impl.Group{}) {
			t.Error(replicas, g, did, ok)
		}
	}
}

func TestCommittedRows(t *testing.T) {
	for replicas := 2; replicas <= 4; replicas++ {
		if l, ok := impl.CommittedRows(plainIsr(replicas)); !ok || len(l) != 0 {
			t.Error("none", l, ok)
		}
	}
	g := keeping()
	for high := range 4 {
		g.High = high
		if l, ok := impl.CommittedRows(g); !ok || !slices.Equal(l, g.Replicas[1].Log[:high]) {
			t.Error(high, l, ok)
		}
	}
	g.InStep, g.High = []int{1}, 4
	if l, ok := impl.CommittedRows(g); !ok || !slices.Equal(l, rows(1, 1, 3, 4)) {
		t.Error("all of the leader's", l, ok)
	}
	if l, ok := impl.CommittedRows(allFull()); !ok || !slices.Equal(l, manyRows(30, 7)) {
		t.Error("as many as may be", l, ok)
	}
}

func TestLagIn(t *testing.T) {
	g := keeping()
	for k, want := range []int{2, 0, 1, 3} {
		if n, ok := impl.LagIn(g, k); !ok || n != want {
			t.Error(k, n, ok)
		}
	}
	g.Replicas[3] = impl.Replica{}
	if n, ok := impl.LagIn(g, 3); !ok || n != 4 {
		t.Error("none of them", n, ok)
	}
	g.Replicas[3].Log = rows(2, 2, 2, 2, 2)
	if n, ok := impl.LagIn(g, 3); !ok || n != 4 {
		t.Error("as many, but others", n, ok)
	}
	g.Replicas[3].Log = append(rows(1, 1, 3, 4), impl.Row{Epoch: 4})
	if n, ok := impl.LagIn(g, 3); !ok || n != 0 {
		t.Error("all, and one more", n, ok)
	}
	for _, k := range []int{-1, 4, 5} {
		if n, ok := impl.LagIn(g, k); ok || n != 0 {
			t.Error("not there", k, n, ok)
		}
	}
	for k, want := range []int{0, 1, 0} {
		if n, ok := impl.LagIn(allFull(), k); !ok || n != want {
			t.Error("full", k, n, ok)
		}
	}
	if n, ok := impl.LagIn(ledFrom(manyRows(30, 4)), 0); !ok || n != 30 {
		t.Error("as many as may be", n, ok)
	}
}

func wantSettled(t *testing.T, why string, g impl.Group, more int) impl.Group {
	t.Helper()
	lead := g.Replicas[g.Leader].Log
	got, up, ok := impl.SettleGroup(g)
	if !ok || up != more || got.High != len(lead) || got.Epoch != g.Epoch || got.Leader != g.Leader {
		t.Errorf("%s: SettleGroup %v: %v %v %v", why, g, got, up, ok)
	}
	if !slices.Equal(got.InStep, steps(len(g.Replicas), 0, 1)) || len(got.Replicas) != len(g.Replicas) {
		t.Errorf("%s: SettleGroup %v: %v", why, g, got)
	}
	for k, r := range got.Replicas {
		if !slices.Equal(r.Log, lead) || r.Epoch != g.Epoch || r.Known != len(lead) {
			t.Errorf("%s: SettleGroup %v: replica %d: %v", why, g, k, r)
		}
	}
	return got
}

func TestSettleGroup(t *testing.T) {
	settled := wantSettled(t, "one behind, one of an elder Epoch, logs part", keeping(), 2)
	if got := wantSettled(t, "settled already", settled, 0); !sameIsr(got, settled) {
		t.Error("it is not as it was", got)
	}
	for replicas := 2; replicas <= 4; replicas++ {
		if got := wantSettled(t, "new", plainIsr(replicas), 0); !sameIsr(got, plainIsr(replicas)) {
			t.Error("it is not as it was", got)
		}
	}
	elder := keeping()
	elder.Epoch = 9
	wantSettled(t, "the leader is of an elder Epoch, too", elder, 2)
	elder.Replicas[1].Known = 0
	wantSettled(t, "and knows nothing", elder, 2)
	wantSettled(t, "full", allFull(), 0)
	wantSettled(t, "all at once", ledFromZero(), 30)
	last := keeping()
	last.Epoch = 100
	wantSettled(t, "the last Epoch", last, 2)
	alone := keeping()
	alone.InStep, alone.High = []int{1}, 4
	wantSettled(t, "the leader alone has it committed", alone, 0)
}

// ledFromZero has a full log of which nothing is committed.
func ledFromZero() impl.Group {
	g := ledFrom(manyRows(30, 4))
	g.High = 0
	return g
}

func TestRandomIsrAndSteps(t *testing.T) {
	r := newRandom()
	for range 500 {
		wantIsrSteps(t, "random", randomIsr(r))
	}
}

func TestAnyGoodIsrAndSteps(t *testing.T) {
	r := newRandom()
	for range 2000 {
		g := anyIsr(r)
		if !impl.GoodGroup(g) {
			t.Fatal(g)
		}
		wantIsrSteps(t, "any", g)
	}
}

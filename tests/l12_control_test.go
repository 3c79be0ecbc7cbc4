package tests

import (
	"fmt"
	"slices"
	"testing"

	"loop.example/g00361/impl"
)

// Chapter 12, function by function and command by command. That a part's leader is in
// step and lives stands in l12_leads_test.go.

// wantControl holds all answers of a control but its commands against what the plain
// words tell.
func wantControl(t *testing.T, why string, c impl.Control) {
	t.Helper()
	if got, want := impl.GoodControl(c), plainControlGood(c); got != want {
		t.Errorf("%s: GoodControl %v: %v", why, c, got)
	}
	live, wanted := plainLive(c)
	if got, ok := impl.LiveBrokers(c); !slices.Equal(got, live) || ok != wanted {
		t.Errorf("%s: LiveBrokers %v: %v %v", why, c, got, ok)
	}
	offline, wanted := plainOffline(c)
	if got, ok := impl.OfflineParts(c); !slices.Equal(got, offline) || ok != wanted {
		t.Errorf("%s: OfflineParts %v: %v %v", why, c, got, ok)
	}
	for k := -2; k <= 7; k++ {
		want, wanted := plainPartsLed(c, k)
		if got, ok := impl.LeadsIn(c, k); !slices.Equal(got, want) || ok != wanted {
			t.Errorf("%s: LeadsIn %v %d: %v %v", why, c, k, got, ok)
		}
	}
}

// wantCommand does so of a command, and tells where it leads.
func wantCommand(t *testing.T, why string, c impl.Control, x impl.Command) (impl.Control, int, bool) {
	t.Helper()
	want, wantCode, wanted := plainDo(c, x)
	got, code, ok := impl.DoCommand(c, x)
	if !sameControl(got, want) || code != wantCode || ok != wanted {
		t.Errorf("%s: DoCommand %v %v: %v %v %v", why, c, x, got, code, ok)
	}
	if ok && !impl.GoodControl(got) {
		t.Errorf("%s: DoCommand %v %v: not good: %v", why, c, x, got)
	}
	return got, code, ok
}

func wantCommands(t *testing.T, why string, c impl.Control) {
	t.Helper()
	wantControl(t, why, c)
	for _, x := range commandsOn(c) {
		wantCommand(t, why, c, x)
	}
}

// wantCommanded asks of a command that it is told RepOk, and leads to a control as the
// change tells.
func wantCommanded(t *testing.T, why string, c impl.Control, x impl.Command, change func(c *impl.Control)) {
	t.Helper()
	want := copyOfControl(c)
	change(&want)
	if got, code, ok := impl.DoCommand(c, x); !ok || code != impl.RepOk || !sameControl(got, want) {
		t.Errorf("%s: DoCommand %v %v: %v %v %v", why, c, x, got, code, ok)
	}
}

// wantReply asks of a command that it is told another code, and changes nothing.
func wantReply(t *testing.T, why string, c impl.Control, x impl.Command, want int) {
	t.Helper()
	if got, code, ok := impl.DoCommand(c, x); !ok || code != want || !sameControl(got, c) {
		t.Errorf("%s: DoCommand %v %v: %v %v %v", why, c, x, got, code, ok)
	}
}

// wantNoCommand asks that nothing is handed out of a command on a good control.
func wantNoCommand(t *testing.T, why string, c impl.Control, x impl.Command) {
	t.Helper()
	if !impl.GoodControl(c) {
		t.Errorf("%s: not good: %v", why, c)
	}
	if got, code, ok := impl.DoCommand(c, x); ok || code != 0 || !sameControl(got, impl.Control{}) {
		t.Errorf("%s: DoCommand %v %v: %v %v %v", why, c, x, got, code, ok)
	}
}

func wantCommandPlay(t *testing.T, why string, brokers int, l []impl.Command) {
	t.Helper()
	want, wantCodes, wanted := plainPlayCommands(brokers, l)
	got, codes, ok := impl.PlayCommands(brokers, l)
	if !sameControl(got, want) || !slices.Equal(codes, wantCodes) || ok != wanted {
		t.Errorf("%s: PlayCommands %d %v: %v %v %v", why, brokers, l, got, codes, ok)
	}
}

func TestTheNamedNumbersOfControls(t *testing.T) {
	got := []int{impl.MaxBrokers, impl.MaxParts, impl.MaxCommands, impl.CmRegister, impl.CmBeat, impl.CmTick, impl.CmCreate, impl.CmAlter, impl.CmMove}
	if !slices.Equal(got, []int{6, 5, 80, 1, 2, 3, 4, 5, 6}) {
		t.Error(got)
	}
	codes := []int{impl.RepOk, impl.RepUnknown, impl.RepStale, impl.RepFenced, impl.RepBad}
	if !slices.Equal(codes, []int{0, 1, 2, 3, 4}) {
		t.Error(codes)
	}
}

func TestNewControl(t *testing.T) {
	for brokers := 1; brokers <= 6; brokers++ {
		c, ok := impl.NewControl(brokers)
		if !ok || len(c.Brokers) != brokers || len(c.Parts) != 0 || c.Next != 1 || !impl.GoodControl(c) {
			t.Error(brokers, c, ok)
		}
		for k, b := range c.Brokers {
			if b != (impl.Broker{Fenced: true}) {
				t.Error(brokers, k, b)
			}
		}
	}
	for _, brokers := range []int{-2, -1, 0, 7, 8} {
		if c, ok := impl.NewControl(brokers); ok || !sameControl(c, impl.Control{}) {
			t.Error(brokers, c, ok)
		}
	}
}

// running is a control of five: 1 leads three parts, and is near its end; 2 is
// Fenced, 3 never registered, and both are all that the part 1 has in step.
func running() impl.Control {
	return impl.Control{
		Brokers: []impl.Broker{
			{Epoch: 3, Left: 9},
			{Epoch: 5, Left: 1},
			{Epoch: 4, Fenced: true},
			{Fenced: true},
			{Epoch: 6, Left: 4},
		},
		Parts: []impl.Partition{
			{Homes: []int{0, 1, 2, 4}, InStep: []int{0, 1, 2}, Leader: 1, Epoch: 4, Stamp: 9},
			{Homes: []int{2, 3}, InStep: []int{2, 3}, Leader: -1, Epoch: 2, Stamp: 5},
			{Homes: []int{1}, InStep: []int{1}, Leader: 1, Epoch: 1, Stamp: 1},
			{Homes: []int{0, 1, 2, 3, 4}, InStep: []int{1, 4}, Leader: 1, Epoch: 7, Stamp: 7},
		},
		Next: 7,
	}
}

func changedControl(change func(c *impl.Control)) impl.Control {
	c := running()
	change(&c)
	return c
}

// atLimits has as much of all as may be.
func atLimits() impl.Control {
	c := impl.Control{Next: 1000}
	for k := range 6 {
		c.Brokers = append(c.Brokers, impl.Broker{Epoch: 994 + k, Left: 9})
	}
	for k := range 5 {
		c.Parts = append(c.Parts, impl.Partition{Homes: steps(6, 0, 1), InStep: steps(6, 0, 1), Leader: k, Epoch: 1000, Stamp: 1000})
	}
	return c
}

func someControls() map[string]impl.Control {
	all := map[string]impl.Control{
		"running":      running(),
		"at limits":    atLimits(),
		"one, alone":   controlAfter(plainControl(1), cmRegister(0), cmCreate(0)),
		"two, one of":  controlAfter(plainControl(2), cmRegister(1), cmCreate(0, 1)),
		"none lives":   controlAfter(plainControl(3), cmCreate(0, 2), cmCreate(1)),
		"no parts yet": controlAfter(plainControl(4), cmRegister(3), cmRegister(0), cmTick()),
	}
	for brokers := 1; brokers <= 6; brokers++ {
		all[fmt.Sprint("new, of ", brokers)] = plainControl(brokers)
	}
	for why, change := range goodControlChanges() {
		all[why] = changedControl(change)
	}
	return all
}

// goodControlChanges each leave running good.
func goodControlChanges() map[string]func(c *impl.Control) {
	return map[string]func(c *impl.Control){
		"a broker's Epoch of Next less one":    func(c *impl.Control) { c.Brokers[2].Epoch = 6 },
		"two with one Epoch":                   func(c *impl.Control) { c.Brokers[0].Epoch = 5 },
		"a broker's Epoch of 0 with no Left":   func(c *impl.Control) { c.Brokers[2].Epoch = 0 },
		"an Epoch of 1":                        func(c *impl.Control) { c.Brokers[1].Epoch = 1 },
		"one who never registered, but fell":   func(c *impl.Control) { c.Brokers[3].Epoch = 1 },
		"a Left of 9":                          func(c *impl.Control) { c.Brokers[1].Left = 9 },
		"a Left of 1":                          func(c *impl.Control) { c.Brokers[0].Left = 1 },
		"no parts":                             func(c *impl.Control) { c.Parts = nil },
		"MaxParts parts":                       func(c *impl.Control) { c.Parts = append(c.Parts, c.Parts[0]) },
		"one home":                             func(c *impl.Control) { c.Parts[0].Homes, c.Parts[0].InStep = []int{1}, []int{1} },
		"all as homes":                         func(c *impl.Control) { c.Parts[0].Homes = steps(5, 0, 1) },
		"all homes in step":                    func(c *impl.Control) { c.Parts[0].InStep = []int{0, 1, 2, 4} },
		"one alone in step":                    func(c *impl.Control) { c.Parts[0].InStep = []int{1} },
		"the first leads":                      func(c *impl.Control) { c.Parts[0].Leader = 0 },
		"the last leads":                       func(c *impl.Control) { c.Parts[3].Leader = 4 },
		"nobody where all in step are Fenced":  func(c *impl.Control) { c.Parts[0].InStep, c.Parts[0].Leader = []int{2}, -1 },
		"a home that lives, but is not InStep": func(c *impl.Control) { c.Parts[1].Homes = []int{0, 2, 3} },
		"a part's Epoch of 0":                  func(c *impl.Control) { c.Parts[0].Epoch = 0 },
		"a part's Epoch of 1000":               func(c *impl.Control) { c.Parts[0].Epoch = 1000 },
		"a Stamp of 0":                         func(c *impl.Control) { c.Parts[0].Stamp = 0 },
		"a Stamp of 1000":                      func(c *impl.Control) { c.Parts[0].Stamp = 1000 },
		"an Epoch above the Stamp":             func(c *impl.Control) { c.Parts[0].Epoch = 10 },
		"an offline Epoch of 1000":             func(c *impl.Control) { c.Parts[1].Epoch = 1000 },
		"an offline Stamp of 1000":             func(c *impl.Control) { c.Parts[1].Stamp = 1000 },
		"a Next of 1000":                       func(c *impl.Control) { c.Next = 1000 },
		"an Epoch of 999, a Next of 1000":      func(c *impl.Control) { c.Next, c.Brokers[0].Epoch = 1000, 999 },
		"a Next of 1":                          func(c *impl.Control) { *c = plainControl(3) },
		"one broker":                           func(c *impl.Control) { c.Brokers, c.Parts = c.Brokers[:1], nil },
		"six brokers":                          func(c *impl.Control) { c.Brokers = append(c.Brokers, impl.Broker{Epoch: 2, Left: 2}) },
	}
}

func badControls() map[string]impl.Control {
	all := map[string]impl.Control{
		"nothing at all":        {},
		"no broker":             plainControl(0),
		"no broker, but parts":  {Parts: running().Parts, Next: 7},
		"seven brokers":         plainControl(7),
		"seventy brokers":       plainControl(70),
		"a new one without 1":   {Brokers: plainControl(3).Brokers},
		"brokers all zero":      {Brokers: make([]impl.Broker, 3), Next: 1},
		"one of them not so":    {Brokers: []impl.Broker{{Fenced: true}, {}}, Next: 1},
		"an Epoch at a Next 1":  {Brokers: []impl.Broker{{Epoch: 1, Left: 9}}, Next: 1},
		"a part that is zero":   {Brokers: plainControl(3).Brokers, Parts: make([]impl.Partition, 1), Next: 1},
		"a part led by nothing": {Brokers: plainControl(3).Brokers, Parts: []impl.Partition{{Homes: []int{0}, InStep: []int{0}}}, Next: 1},
	}
	for why, change := range badBrokerChanges() {
		all[why] = changedControl(change)
	}
	for why, change := range badPartitionChanges() {
		for part := range 4 {
			all[fmt.Sprint("part ", part, ": ", why)] = changedControl(func(c *impl.Control) { change(&c.Parts[part]) })
		}
	}
	for why, change := range badLeaderChanges() {
		all[why] = changedControl(change)
	}
	return all
}

// badBrokerChanges each spoil running by one thing that is not of its parts.
func badBrokerChanges() map[string]func(c *impl.Control) {
	return map[string]func(c *impl.Control){
		"a broker's Epoch of -1":         func(c *impl.Control) { c.Brokers[0].Epoch = -1 },
		"a fenced broker's Epoch of -1":  func(c *impl.Control) { c.Brokers[2].Epoch = -1 },
		"a broker's Epoch of Next":       func(c *impl.Control) { c.Brokers[4].Epoch = 7 },
		"a broker's Epoch above Next":    func(c *impl.Control) { c.Brokers[4].Epoch = 8 },
		"a fenced broker's of Next":      func(c *impl.Control) { c.Brokers[2].Epoch = 7 },
		"an Epoch of 0 with a Left":      func(c *impl.Control) { c.Brokers[0].Epoch = 0 },
		"an Epoch of 0 with a Left of 1": func(c *impl.Control) { c.Brokers[3] = impl.Broker{Left: 1} },
		"a Left of -1":                   func(c *impl.Control) { c.Brokers[2].Left = -1 },
		"a Left of -1, not Fenced":       func(c *impl.Control) { c.Brokers[0].Left = -1 },
		"a Left of 10":                   func(c *impl.Control) { c.Brokers[0].Left = 10 },
		"a Left of 10, Fenced":           func(c *impl.Control) { c.Brokers[2].Left = 10 },
		"Fenced with a Left of 9":        func(c *impl.Control) { c.Brokers[2].Left = 9 },
		"Fenced with a Left of 1":        func(c *impl.Control) { c.Brokers[2].Left = 1 },
		"Fenced, and it leads none":      func(c *impl.Control) { c.Brokers[0].Fenced = true },
		"not Fenced with a Left of 0":    func(c *impl.Control) { c.Brokers[0].Left = 0 },
		"not Fenced, never registered":   func(c *impl.Control) { c.Parts, c.Brokers[3].Fenced = nil, false },
		"not Fenced any more":            func(c *impl.Control) { c.Parts, c.Brokers[2].Fenced = nil, false },
		"MaxParts and one more":          func(c *impl.Control) { c.Parts = append(c.Parts, c.Parts[:2]...) },
		"a Next of 0":                    func(c *impl.Control) { c.Next = 0 },
		"a Next of 0, nobody registered": func(c *impl.Control) { *c = plainControl(3); c.Next = 0 },
		"a Next of -1":                   func(c *impl.Control) { *c = plainControl(3); c.Next = -1 },
		"a Next of 1001":                 func(c *impl.Control) { c.Next = 1001 },
		"a Next of 6":                    func(c *impl.Control) { c.Next = 6 },
		"no brokers any more":            func(c *impl.Control) { c.Brokers = nil },
		"two brokers too many":           func(c *impl.Control) { c.Brokers = append(c.Brokers, c.Brokers[:2]...) },
		"a broker less":                  func(c *impl.Control) { c.Brokers = c.Brokers[:4] },
	}
}

// badPartitionChanges spoil any part of running.
func badPartitionChanges() map[string]func(p *impl.Partition) {
	return map[string]func(p *impl.Partition){
		"no Homes":                     func(p *impl.Partition) { p.Homes = nil },
		"no Homes, nobody InStep":      func(p *impl.Partition) { p.Homes, p.InStep = nil, nil },
		"nothing, led by nobody":       func(p *impl.Partition) { p.Homes, p.InStep, p.Leader = nil, nil, -1 },
		"Homes that fall":              func(p *impl.Partition) { p.Homes = []int{4, 3, 2, 1, 0} },
		"Homes that fall at the end":   func(p *impl.Partition) { p.Homes = []int{0, 1, 2, 4, 3} },
		"Homes with one twice":         func(p *impl.Partition) { p.Homes = []int{0, 1, 2, 2, 3, 4} },
		"Homes with one not there":     func(p *impl.Partition) { p.Homes = []int{0, 1, 2, 3, 4, 5} },
		"Homes with -1":                func(p *impl.Partition) { p.Homes = []int{-1, 0, 1, 2, 3, 4} },
		"Homes with one far away":      func(p *impl.Partition) { p.Homes = []int{0, 1, 2, 3, 4, 64} },
		"Homes without one InStep":     func(p *impl.Partition) { p.Homes = []int{0, 3} },
		"nobody InStep":                func(p *impl.Partition) { p.InStep = nil },
		"nobody InStep, nobody leads":  func(p *impl.Partition) { p.InStep, p.Leader = nil, -1 },
		"InStep that fall":             func(p *impl.Partition) { p.Homes, p.InStep = steps(5, 0, 1), []int{3, 2, 1} },
		"InStep with one twice":        func(p *impl.Partition) { p.InStep = append(slices.Clone(p.InStep), p.InStep[len(p.InStep)-1]) },
		"InStep with one not there":    func(p *impl.Partition) { p.InStep = append(slices.Clone(p.InStep), 5) },
		"Homes, too, have it":          func(p *impl.Partition) { p.Homes, p.InStep = []int{0, 1, 2, 3, 4, 5}, []int{0, 1, 5} },
		"InStep with -1":               func(p *impl.Partition) { p.InStep = append([]int{-1}, p.InStep...) },
		"InStep with 64":               func(p *impl.Partition) { p.InStep = append(slices.Clone(p.InStep), 64) },
		"a Leader of -2":               func(p *impl.Partition) { p.Leader = -2 },
		"a Leader who is not there":    func(p *impl.Partition) { p.Leader = 5 },
		"a Leader who is far away":     func(p *impl.Partition) { p.Leader = 64 },
		"a Leader who is Fenced":       func(p *impl.Partition) { p.Leader = 2 },
		"a Leader Fenced and InStep":   func(p *impl.Partition) { p.Homes, p.InStep, p.Leader = []int{1, 2}, []int{1, 2}, 2 },
		"a Leader Fenced, with no one": func(p *impl.Partition) { p.Homes, p.InStep, p.Leader = []int{2, 3}, []int{2, 3}, 2 },
		"a Leader who never lived":     func(p *impl.Partition) { p.Leader = 3 },
		"nobody, though one lives":     func(p *impl.Partition) { p.Homes, p.InStep, p.Leader = []int{1, 2}, []int{1, 2}, -1 },
		"an Epoch of -1":               func(p *impl.Partition) { p.Epoch = -1 },
		"an Epoch of 1001":             func(p *impl.Partition) { p.Epoch = 1001 },
		"a Stamp of -1":                func(p *impl.Partition) { p.Stamp = -1 },
		"a Stamp of 1001":              func(p *impl.Partition) { p.Stamp = 1001 },
	}
}

// badLeaderChanges each spoil one part of running.
func badLeaderChanges() map[string]func(c *impl.Control) {
	return map[string]func(c *impl.Control){
		"InStep with one not of Homes":         func(c *impl.Control) { c.Parts[0].InStep = []int{0, 1, 3} },
		"InStep with one who lives, of others": func(c *impl.Control) { c.Parts[2].InStep = []int{0, 1} },
		"a Leader who lives, but not InStep":   func(c *impl.Control) { c.Parts[0].Leader = 4 },
		"a Leader of no home":                  func(c *impl.Control) { c.Parts[2].Leader = 0 },
		"a Leader where none InStep lives":     func(c *impl.Control) { c.Parts[1].Leader = 0 },
		"a Leader where a home lives":          func(c *impl.Control) { c.Parts[1].Homes, c.Parts[1].Leader = []int{0, 2, 3}, 0 },
		"nobody where the first lives":         func(c *impl.Control) { c.Parts[0].Leader = -1 },
		"nobody where the only one lives":      func(c *impl.Control) { c.Parts[2].Leader = -1 },
		"nobody where the last lives":          func(c *impl.Control) { c.Parts[3].InStep, c.Parts[3].Leader = []int{2, 3, 4}, -1 },
		"the leader fell, it was not told":     func(c *impl.Control) { c.Brokers[1].Left, c.Brokers[1].Fenced = 0, true },
		"one came, it was not told":            func(c *impl.Control) { c.Brokers[2].Left, c.Brokers[2].Fenced = 9, false },
	}
}

func TestGoodControls(t *testing.T) {
	for why, c := range someControls() {
		if !impl.GoodControl(c) || !plainControlGood(c) {
			t.Error(why, c)
		}
		wantCommands(t, why, c)
	}
}

func TestBadControls(t *testing.T) {
	for why, c := range badControls() {
		if impl.GoodControl(c) || plainControlGood(c) {
			t.Error(why, c)
		}
		for _, x := range append(commandsOn(c), commandsOn(running())...) {
			if got, code, ok := impl.DoCommand(c, x); ok || code != 0 || !sameControl(got, impl.Control{}) {
				t.Error(why, x, got, code, ok)
			}
		}
		for k := -1; k <= 6; k++ {
			if l, ok := impl.LeadsIn(c, k); ok || len(l) != 0 {
				t.Error(why, k, l, ok)
			}
		}
		if l, ok := impl.LiveBrokers(c); ok || len(l) != 0 {
			t.Error(why, l, ok)
		}
		if l, ok := impl.OfflineParts(c); ok || len(l) != 0 {
			t.Error(why, l, ok)
		}
	}
}

// All parts with few numbers, of two brokers in each of their states.
func TestAllPartsOfTwo(t *testing.T) {
	lists := [][]int{nil, {0}, {1}, {0, 1}, {1, 0}, {0, 0}, {1, 2}, {-1, 0}}
	states := []impl.Broker{{Fenced: true}, {Epoch: 1, Fenced: true}, {Epoch: 2, Left: 1}, {Epoch: 1, Left: 9}, {Left: 1}, {Epoch: 1}}
	good, not := 0, 0
	for _, a := range states {
		for _, b := range states {
			for _, homes := range lists {
				for _, some := range lists {
					for leader := -2; leader <= 2; leader++ {
						p := impl.Partition{Homes: homes, InStep: some, Leader: leader, Epoch: 1, Stamp: 1}
						c := impl.Control{Brokers: []impl.Broker{a, b}, Parts: []impl.Partition{p}, Next: 3}
						if plainControlGood(c) {
							good++
							wantCommands(t, "two", c)
							continue
						}
						not++
						wantControl(t, "two", c)
					}
				}
			}
		}
	}
	// Of 16 pairs of good brokers 5 parts each, and once more where either of two may
	// lead.
	if good != 84 || not < 1000 {
		t.Error("one kind alone", good, not)
	}
}

func TestCmRegister(t *testing.T) {
	c := running()
	for k := range 5 {
		if k == 2 || k == 3 {
			continue
		}
		wantCommanded(t, "one that lives registers again", c, cmRegister(k), func(c *impl.Control) {
			c.Brokers[k], c.Next = impl.Broker{Epoch: 7, Left: 9}, 8
		})
	}
	for k := 2; k <= 3; k++ {
		wantCommanded(t, "one that is Fenced lives, and leads the part that nobody leads", c, cmRegister(k), func(c *impl.Control) {
			c.Brokers[k], c.Next = impl.Broker{Epoch: 7, Left: 9}, 8
			c.Parts[1].Leader, c.Parts[1].Epoch, c.Parts[1].Stamp = k, 3, 6
		})
	}
	for _, k := range []int{-1, 5, 6} {
		wantNoCommand(t, "one who is not there", c, cmRegister(k))
	}
	for brokers := 1; brokers <= 6; brokers++ {
		for k := range brokers {
			wantCommanded(t, "new", plainControl(brokers), cmRegister(k), func(c *impl.Control) {
				c.Brokers[k], c.Next = impl.Broker{Epoch: 1, Left: 9}, 2
			})
		}
	}
}

func TestCmRegisterUpToTheLastEpoch(t *testing.T) {
	for k := range 5 {
		c := running()
		c.Parts = nil
		for _, next := range []int{998, 999} {
			c.Next = next
			wantCommanded(t, "the last but one, or the last", c, cmRegister(k), func(c *impl.Control) {
				c.Brokers[k], c.Next = impl.Broker{Epoch: next, Left: 9}, next+1
			})
		}
		c.Next = 1000
		wantReply(t, "one more", c, cmRegister(k), impl.RepBad)
	}
	c := atLimits()
	for k := range 6 {
		wantReply(t, "one more", c, cmRegister(k), impl.RepBad)
		wantCommanded(t, "a beat still counts", c, cmBeat(k, 994+k), func(c *impl.Control) {})
	}
}

func TestCmBeat(t *testing.T) {
	c := running()
	for k, epoch := range []int{3, 5, 4, 0, 6} {
		for other := range 12 {
			switch {
			case k == 3:
				wantReply(t, "never registered", c, cmBeat(k, other), impl.RepUnknown)
			case other != epoch:
				wantReply(t, "not its Epoch", c, cmBeat(k, other), impl.RepStale)
			case k == 2:
				wantCommanded(t, "Fenced until now", c, cmBeat(k, epoch), func(c *impl.Control) {
					c.Brokers[2] = impl.Broker{Epoch: 4, Left: 9}
					c.Parts[1].Leader, c.Parts[1].Epoch, c.Parts[1].Stamp = 2, 3, 6
				})
			default:
				wantCommanded(t, "it lives on", c, cmBeat(k, epoch), func(c *impl.Control) { c.Brokers[k].Left = 9 })
			}
		}
		told := impl.RepStale
		if k == 3 {
			told = impl.RepUnknown
		}
		wantReply(t, "the last number", c, cmBeat(k, 1000), told)
		for _, n := range []int{-1, 1001} {
			wantNoCommand(t, "beyond its limits", c, cmBeat(k, n))
		}
	}
	for _, k := range []int{-1, 5, 6} {
		for _, epoch := range []int{0, 3} {
			wantNoCommand(t, "one who is not there", c, cmBeat(k, epoch))
		}
	}
	for brokers := 1; brokers <= 6; brokers++ {
		for k := range brokers {
			wantReply(t, "nobody registered yet", plainControl(brokers), cmBeat(k, 0), impl.RepUnknown)
			wantReply(t, "nobody registered yet", plainControl(brokers), cmBeat(k, 1), impl.RepUnknown)
		}
	}
}

// An Epoch that was a broker's once is so no more when it registered again.
func TestCmBeatOfAnElderEpoch(t *testing.T) {
	c := controlAfter(plainControl(2), cmRegister(0), cmRegister(1), cmTick(), cmRegister(0))
	wantReply(t, "its elder Epoch", c, cmBeat(0, 1), impl.RepStale)
	wantReply(t, "another's", c, cmBeat(0, 2), impl.RepStale)
	wantReply(t, "0 is nobody's", c, cmBeat(0, 0), impl.RepStale)
	wantReply(t, "the next", c, cmBeat(0, 4), impl.RepStale)
	wantCommanded(t, "its own", controlAfter(c, cmTick()), cmBeat(0, 3), func(c *impl.Control) { c.Brokers[0].Left = 9 })
	wantCommanded(t, "the other's own", c, cmBeat(1, 2), func(c *impl.Control) { c.Brokers[1].Left = 9 })
}

func TestCmTick(t *testing.T) {
	wantCommanded(t, "1 falls, and leads no more", running(), cmTick(), func(c *impl.Control) {
		c.Brokers[0].Left, c.Brokers[1].Left, c.Brokers[1].Fenced, c.Brokers[4].Left = 8, 0, true, 3
		c.Parts[0].Leader, c.Parts[0].Epoch, c.Parts[0].Stamp = 0, 5, 10
		c.Parts[2].Leader, c.Parts[2].Stamp = -1, 2
		c.Parts[3].Leader, c.Parts[3].Epoch, c.Parts[3].Stamp = 4, 8, 8
	})
	for brokers := 1; brokers <= 6; brokers++ {
		wantCommanded(t, "nobody lives", plainControl(brokers), cmTick(), func(c *impl.Control) {})
	}
	c := controlAfter(plainControl(2), cmRegister(1), cmCreate(0, 1))
	for left := 8; left > 0; left-- {
		wantCommanded(t, "one less", c, cmTick(), func(c *impl.Control) { c.Brokers[1].Left = left })
		c = controlAfter(c, cmTick())
	}
	wantCommanded(t, "none left", c, cmTick(), func(c *impl.Control) {
		c.Brokers[1].Left, c.Brokers[1].Fenced = 0, true
		c.Parts[0].Leader, c.Parts[0].Stamp = -1, 2
	})
	c = controlAfter(c, cmTick())
	wantCommanded(t, "nothing is less than none", c, cmTick(), func(c *impl.Control) {})
}

func TestCmTickOfAllAtOnce(t *testing.T) {
	c := controlAfter(plainControl(3), cmRegister(2), cmRegister(0), cmRegister(1), cmCreate(0, 1, 2), cmCreate(1, 2), cmMove(0, 2))
	for range 8 {
		c = controlAfter(c, cmTick())
	}
	wantCommanded(t, "all fall", c, cmTick(), func(c *impl.Control) {
		for k := range c.Brokers {
			c.Brokers[k].Left, c.Brokers[k].Fenced = 0, true
		}
		c.Parts[0].Leader, c.Parts[0].Stamp = -1, 3
		c.Parts[1].Leader, c.Parts[1].Stamp = -1, 2
	})
	if p := c.Parts[0]; p.Epoch != 2 || p.Stamp != 2 {
		t.Error(p)
	}
	left := controlAfter(c, cmBeat(1, 3))
	wantCommanded(t, "all but 1", left, cmTick(), func(c *impl.Control) {
		c.Brokers[0].Left, c.Brokers[0].Fenced = 0, true
		c.Brokers[1].Left = 8
		c.Brokers[2].Left, c.Brokers[2].Fenced = 0, true
		c.Parts[0].Leader, c.Parts[0].Epoch, c.Parts[0].Stamp = 1, 3, 3
	})
}

func TestCmCreate(t *testing.T) {
	c := running()
	for bits := 1; bits < 32; bits++ {
		homes := listOf(bits)
		p := impl.Partition{Homes: homes, InStep: homes, Leader: -1, Stamp: 1}
		for _, k := range []int{4, 1, 0} {
			if bits>>k&1 == 1 {
				p.Leader, p.Epoch = k, 1
			}
		}
		wantCommanded(t, "the first that lives leads", c, cmCreate(homes...), func(c *impl.Control) { c.Parts = append(c.Parts, p) })
	}
	wantReply(t, "no home", c, cmCreate(), impl.RepBad)
	for _, homes := range [][]int{{1, 0}, {0, 0}, {0, 1, 1}, {-1}, {-1, 0}, {5}, {0, 5}, {64}} {
		wantNoCommand(t, "not rising, or not there", c, cmCreate(homes...))
	}
	full := controlAfter(c, cmCreate(0))
	for bits := range 32 {
		wantReply(t, "no room", full, cmCreate(listOf(bits)...), impl.RepBad)
	}
	for _, homes := range [][]int{{1, 0}, {5}} {
		wantNoCommand(t, "no room, nor rising", full, cmCreate(homes...))
	}
	few := plainControl(6)
	for many := range 5 {
		wantCommanded(t, "all homes are Fenced", few, cmCreate(steps(6, 0, 1)...), func(c *impl.Control) {
			c.Parts = append(c.Parts, impl.Partition{Homes: steps(6, 0, 1), InStep: steps(6, 0, 1), Leader: -1, Stamp: 1})
		})
		few = controlAfter(few, cmCreate(many))
	}
	wantReply(t, "one more than there is room for", few, cmCreate(0), impl.RepBad)
}

func TestCmAlter(t *testing.T) {
	c := running()
	for bits := range 32 {
		some := listOf(bits)
		// The homes are 0, 1, 2 and 4; 2 is Fenced, but was in step.
		if bits&8 != 0 || bits&2 == 0 {
			wantReply(t, "3 is no home, or 1, who leads, is not there", c, cmAlter(0, 1, 4, 9, some...), impl.RepBad)
			continue
		}
		wantCommanded(t, "they are in step", c, cmAlter(0, 1, 4, 9, some...), func(c *impl.Control) {
			c.Parts[0].InStep, c.Parts[0].Stamp = some, 10
		})
	}
	for bits := range 32 {
		some := listOf(bits)
		// All are homes; 2 and 3 are Fenced, and were not in step.
		if bits&12 != 0 || bits&2 == 0 {
			wantReply(t, "one is Fenced and new, or 1 is not there", c, cmAlter(3, 1, 7, 7, some...), impl.RepBad)
			continue
		}
		wantCommanded(t, "they are in step", c, cmAlter(3, 1, 7, 7, some...), func(c *impl.Control) {
			c.Parts[3].InStep, c.Parts[3].Stamp = some, 8
		})
	}
	wantCommanded(t, "as it was, with a new Stamp", c, cmAlter(2, 1, 1, 1, 1), func(c *impl.Control) { c.Parts[2].Stamp = 2 })
}

// Who is Fenced and was in step may stay so; once it is not in step it can't be again.
func TestCmAlterOfOneThatIsFenced(t *testing.T) {
	c := running()
	wantCommanded(t, "2 stays", c, cmAlter(0, 1, 4, 9, 1, 2), func(c *impl.Control) {
		c.Parts[0].InStep, c.Parts[0].Stamp = []int{1, 2}, 10
	})
	c = controlAfter(c, cmAlter(0, 1, 4, 9, 0, 1))
	wantReply(t, "2 would be new", c, cmAlter(0, 1, 4, 10, 0, 1, 2), impl.RepBad)
	c = controlAfter(c, cmBeat(2, 4))
	wantCommanded(t, "2 lives", c, cmAlter(0, 1, 4, 10, 0, 1, 2), func(c *impl.Control) {
		c.Parts[0].InStep, c.Parts[0].Stamp = []int{0, 1, 2}, 11
	})
}

func TestCmAlterCodesInTheirOrder(t *testing.T) {
	c := running()
	for _, part := range []int{4, 5, 6, 999, 1000} {
		wantReply(t, "no such part", c, cmAlter(part, 1, 4, 9, 0, 1), impl.RepUnknown)
		wantReply(t, "no such part, and all else wrong", c, cmAlter(part, 3, 1000, 1000), impl.RepUnknown)
	}
	wantReply(t, "no part at all", plainControl(2), cmAlter(0, 0, 0, 0, 0), impl.RepUnknown)
	for _, epoch := range []int{0, 3, 5, 1000} {
		wantReply(t, "another Epoch", c, cmAlter(0, 1, epoch, 9, 0, 1), impl.RepStale)
		wantReply(t, "another Epoch, and not by the Leader", c, cmAlter(0, 0, epoch, 8, 3), impl.RepStale)
	}
	for _, k := range []int{0, 2, 3, 4} {
		wantReply(t, "not by the Leader", c, cmAlter(0, k, 4, 9, 0, 1), impl.RepFenced)
		wantReply(t, "not by the Leader, with another Stamp", c, cmAlter(0, k, 4, 8, 0, 1), impl.RepFenced)
		wantReply(t, "not by the Leader, without it", c, cmAlter(0, k, 4, 9, k), impl.RepFenced)
	}
	for _, stamp := range []int{0, 8, 10, 1000} {
		wantReply(t, "another Stamp", c, cmAlter(0, 1, 4, stamp, 0, 1), impl.RepStale)
		wantReply(t, "another Stamp, and nobody in step", c, cmAlter(0, 1, 4, stamp), impl.RepStale)
		wantReply(t, "another Stamp, and none of Homes", c, cmAlter(0, 1, 4, stamp, 3), impl.RepStale)
	}
	wantReply(t, "nobody in step", c, cmAlter(0, 1, 4, 9), impl.RepBad)
	wantReply(t, "one not of Homes", c, cmAlter(0, 1, 4, 9, 1, 3), impl.RepBad)
	wantReply(t, "without the Leader", c, cmAlter(0, 1, 4, 9, 0, 2), impl.RepBad)
	wantReply(t, "one Fenced and new", c, cmAlter(3, 1, 7, 7, 1, 2, 4), impl.RepBad)
	for k := range 5 {
		wantReply(t, "nobody leads it", c, cmAlter(1, k, 2, 5, 2, 3), impl.RepFenced)
		wantReply(t, "nobody leads it, with another Epoch", c, cmAlter(1, k, 3, 5, 2, 3), impl.RepStale)
	}
}

func TestCmMove(t *testing.T) {
	c := running()
	wantCommanded(t, "to another one", c, cmMove(0, 0), func(c *impl.Control) {
		c.Parts[0].Leader, c.Parts[0].Epoch, c.Parts[0].Stamp = 0, 5, 10
	})
	wantCommanded(t, "to another one", c, cmMove(3, 4), func(c *impl.Control) {
		c.Parts[3].Leader, c.Parts[3].Epoch, c.Parts[3].Stamp = 4, 8, 8
	})
	for _, part := range []int{0, 2, 3} {
		wantCommanded(t, "to the leader itself", c, cmMove(part, 1), func(c *impl.Control) {})
	}
	wantReply(t, "in step, but Fenced", c, cmMove(0, 2), impl.RepBad)
	wantReply(t, "of Homes, but not in step", c, cmMove(0, 4), impl.RepBad)
	wantReply(t, "not of Homes", c, cmMove(0, 3), impl.RepBad)
	wantReply(t, "not of Homes, but it lives", c, cmMove(2, 0), impl.RepBad)
	for k := range 5 {
		wantReply(t, "nobody in step lives", c, cmMove(1, k), impl.RepBad)
		for _, part := range []int{4, 5, 1000} {
			wantReply(t, "no such part", c, cmMove(part, k), impl.RepUnknown)
		}
		for _, part := range []int{-1, 1001} {
			wantNoCommand(t, "beyond its limits", c, cmMove(part, k))
		}
	}
	for _, k := range []int{-1, 5, 6} {
		for part := range 5 {
			wantNoCommand(t, "one who is not there", c, cmMove(part, k))
		}
	}
}

// A part whose numbers are at 1000 is as it is: each command that would make one of
// them more is refused, whole.
func TestPartsAtTheLastNumber(t *testing.T) {
	for _, c := range []struct {
		why          string
		epoch, stamp int
		moves, falls bool
	}{
		{"both below", 999, 999, true, true},
		{"the Epoch", 1000, 998, false, true},
		{"the Stamp", 998, 1000, false, false},
		{"both", 1000, 1000, false, false},
	} {
		now := running()
		now.Brokers[4].Left = 1
		p := &now.Parts[3]
		p.Epoch, p.Stamp = c.epoch, c.stamp
		if c.moves {
			wantCommanded(t, c.why, now, cmMove(3, 4), func(c *impl.Control) {
				c.Parts[3].Leader, c.Parts[3].Epoch, c.Parts[3].Stamp = 4, 1000, 1000
			})
		} else {
			wantReply(t, c.why, now, cmMove(3, 4), impl.RepBad)
		}
		wantCommanded(t, c.why, now, cmMove(3, 1), func(c *impl.Control) {})
		if c.stamp == 1000 {
			wantReply(t, c.why, now, cmAlter(3, 1, c.epoch, c.stamp, 1), impl.RepBad)
			wantReply(t, c.why, now, cmAlter(3, 1, c.epoch, c.stamp, 1, 4), impl.RepBad)
		} else {
			wantCommanded(t, c.why, now, cmAlter(3, 1, c.epoch, c.stamp, 1), func(now *impl.Control) {
				now.Parts[3].InStep, now.Parts[3].Stamp = []int{1}, c.stamp+1
			})
		}
		_, code, _ := wantCommand(t, c.why, now, cmTick())
		if (code == impl.RepOk) != c.falls {
			t.Error(c.why, "both fall", code)
		}
		lives := copyOfControl(now)
		lives.Brokers[4].Left = 2
		_, code, _ = wantCommand(t, c.why, lives, cmTick())
		if (code == impl.RepOk) != c.moves {
			t.Error(c.why, "one falls", code)
		}
	}
}

func TestOfflinePartsAtTheLastNumber(t *testing.T) {
	back := func(c *impl.Control) {
		c.Brokers[2].Left, c.Brokers[2].Fenced = 9, false
		c.Parts[1].Leader = 2
		c.Parts[1].Epoch++
		c.Parts[1].Stamp++
	}
	c := running()
	for _, at := range [][2]int{{999, 999}, {1000, 5}, {5, 1000}, {1000, 1000}} {
		c.Parts[1].Epoch, c.Parts[1].Stamp = at[0], at[1]
		if max(at[0], at[1]) < 1000 {
			wantCommanded(t, "up to the last", c, cmBeat(2, 4), back)
			wantCommanded(t, "up to the last", c, cmRegister(2), func(c *impl.Control) {
				back(c)
				c.Brokers[2].Epoch, c.Next = 7, 8
			})
			continue
		}
		wantReply(t, "it can't be led any more", c, cmBeat(2, 4), impl.RepBad)
		wantReply(t, "it can't be led any more", c, cmRegister(2), impl.RepBad)
		wantReply(t, "it can't be led any more", c, cmRegister(3), impl.RepBad)
		wantReply(t, "an elder Epoch is told first", c, cmBeat(2, 3), impl.RepStale)
		wantCommanded(t, "another broker does not touch it", c, cmBeat(0, 3), func(c *impl.Control) {})
	}
}

// One part at its last number keeps all others as they are, though they could go on.
func TestOnePartAtTheLastNumberKeepsAll(t *testing.T) {
	for _, part := range []int{0, 2, 3} {
		c := running()
		c.Parts[part].Stamp = 1000
		wantReply(t, "1 would fall", c, cmTick(), impl.RepBad)
		wantCommanded(t, "1 does not", controlAfter(c, cmBeat(1, 5)), cmTick(), func(c *impl.Control) {
			c.Brokers[0].Left, c.Brokers[1].Left, c.Brokers[4].Left = 8, 8, 3
		})
		c = running()
		c.Parts[part].Epoch = 1000
		if part == 2 {
			wantCommanded(t, "nobody leads it then: its Epoch stays", c, cmTick(), func(c *impl.Control) {
				c.Brokers[0].Left, c.Brokers[1].Left, c.Brokers[1].Fenced, c.Brokers[4].Left = 8, 0, true, 3
				c.Parts[0].Leader, c.Parts[0].Epoch, c.Parts[0].Stamp = 0, 5, 10
				c.Parts[2].Leader, c.Parts[2].Stamp = -1, 2
				c.Parts[3].Leader, c.Parts[3].Epoch, c.Parts[3].Stamp = 4, 8, 8
			})
			continue
		}
		wantReply(t, "another one would lead", c, cmTick(), impl.RepBad)
	}
	c := running()
	c.Parts[1].Stamp = 1000
	wantCommanded(t, "a part that nobody leads stays so", c, cmTick(), func(c *impl.Control) {
		c.Brokers[0].Left, c.Brokers[1].Left, c.Brokers[1].Fenced, c.Brokers[4].Left = 8, 0, true, 3
		c.Parts[0].Leader, c.Parts[0].Epoch, c.Parts[0].Stamp = 0, 5, 10
		c.Parts[2].Leader, c.Parts[2].Stamp = -1, 2
		c.Parts[3].Leader, c.Parts[3].Epoch, c.Parts[3].Stamp = 4, 8, 8
	})
	for _, homes := range [][]int{{0}, {2}, {0, 1, 2, 3, 4}} {
		if _, code, ok := impl.DoCommand(c, cmCreate(homes...)); !ok || code != impl.RepOk {
			t.Error("a new part has its own", homes, code, ok)
		}
	}
}

// Each of these is told RepOk as it is.
func TestCommandsWithFieldsOfNoUse(t *testing.T) {
	c := running()
	for _, x := range []struct {
		command impl.Command
		used    string
	}{
		{cmRegister(0), "kb"},
		{cmBeat(0, 3), "kbe"},
		{cmTick(), "k"},
		{cmCreate(0, 1), "kl"},
		{cmMove(0, 1), "kbp"},
	} {
		if _, code, ok := wantCommand(t, "as it is", c, x.command); !ok || code != impl.RepOk {
			t.Error(x, code, ok)
		}
		for field, name := range "kbeps" {
			if slices.Contains([]rune(x.used), name) {
				continue
			}
			for _, n := range []int{-1, 1, 2, 3, 4, 1000, 1001} {
				y := x.command
				*numbersOfCommand(&y)[field] = n
				wantNoCommand(t, "a number too many", c, y)
			}
		}
		if !slices.Contains([]rune(x.used), 'l') {
			for _, some := range [][]int{{0}, {1}, {0, 1}, {4}, {5}, {1, 0}} {
				y := x.command
				y.InStep = some
				wantNoCommand(t, "InStep too many", c, y)
			}
		}
		empty := x.command
		if len(empty.InStep) == 0 {
			empty.InStep = []int{}
			wantCommand(t, "an empty list is none", c, empty)
			if _, _, ok := impl.DoCommand(c, empty); !ok {
				t.Error("an empty list is none", empty)
			}
		}
	}
}

func TestCommandsWithFieldsBeyondTheirLimits(t *testing.T) {
	c := running()
	x := cmAlter(0, 1, 4, 9, 0, 1)
	for _, n := range []int{-1, 1001} {
		for field := 1; field <= 4; field++ {
			y := x
			*numbersOfCommand(&y)[field] = n
			wantNoCommand(t, "a number", c, y)
		}
	}
	for _, n := range []int{5, 6, 1000} {
		y := x
		y.Broker = n
		wantNoCommand(t, "a broker who is not there", c, y)
	}
	for _, some := range [][]int{{1, 0}, {1, 1}, {0, 1, 1}, {-1, 1}, {1, 5}, {1, 64}, {0, 1, 2, 3, 4, 5}} {
		y := x
		y.InStep = some
		wantNoCommand(t, "InStep", c, y)
	}
	for _, n := range []int{0, 1000} {
		for field, want := range map[int]int{2: impl.RepStale, 4: impl.RepStale} {
			y := x
			*numbersOfCommand(&y)[field] = n
			wantReply(t, "at its limit", c, y, want)
		}
	}
	y := x
	y.Part = 1000
	wantReply(t, "at its limit", c, y, impl.RepUnknown)
}

func TestCommandsThatAreNone(t *testing.T) {
	for why, c := range someControls() {
		for _, kind := range []int{-1, 0, 7, 8, 100} {
			wantNoCommand(t, why, c, impl.Command{Kind: kind})
			wantNoCommand(t, why, c, impl.Command{Kind: kind, Broker: len(c.Brokers) - 1, Epoch: 1})
			wantNoCommand(t, why, c, impl.Command{Kind: kind, InStep: []int{0}})
		}
	}
}

func TestPlayCommands(t *testing.T) {
	for brokers := 1; brokers <= 6; brokers++ {
		c, codes, ok := impl.PlayCommands(brokers, nil)
		if !ok || len(codes) != 0 || !sameControl(c, plainControl(brokers)) {
			t.Error("no command", c, codes, ok)
		}
	}
	l := []impl.Command{
		cmBeat(0, 1), cmCreate(1, 2), cmRegister(2), cmMove(0, 1), cmRegister(1), cmMove(0, 1), cmMove(0, 1), cmMove(1, 1),
		cmAlter(0, 2, 1, 2, 2), cmAlter(0, 2, 2, 3, 2), cmAlter(0, 1, 2, 2, 1), cmAlter(0, 1, 2, 3, 2), cmAlter(0, 1, 2, 3, 1),
		cmCreate(), cmCreate(0), cmTick(), cmBeat(2, 1), cmBeat(1, 1), cmRegister(0), cmTick()}
	want := impl.Control{
		Brokers: []impl.Broker{{Epoch: 3, Left: 8}, {Epoch: 2, Left: 7}, {Epoch: 1, Left: 8}},
		Parts: []impl.Partition{
			{Homes: []int{1, 2}, InStep: []int{1}, Leader: 1, Epoch: 2, Stamp: 4},
			{Homes: []int{0}, InStep: []int{0}, Leader: 0, Epoch: 1, Stamp: 2},
		},
		Next: 4,
	}
	c, codes, ok := impl.PlayCommands(3, l)
	told := []int{1, 0, 0, 4, 0, 0, 0, 1, 2, 3, 2, 4, 0, 4, 0, 0, 0, 2, 0, 0}
	if !ok || !sameControl(c, want) || !slices.Equal(codes, told) {
		t.Error(c, codes, ok)
	}
	for many := range l {
		wantCommandPlay(t, "the first", 3, l[:many])
		for _, stray := range []impl.Command{{}, {Kind: 7}, cmRegister(3), cmCreate(1, 0), cmBeat(0, 1001), {Kind: impl.CmTick, Broker: 1}} {
			broken := slices.Insert(slices.Clone(l), many, stray)
			if c, codes, ok := impl.PlayCommands(3, broken); ok || len(codes) != 0 || !sameControl(c, impl.Control{}) {
				t.Error("one that is told false", many, stray, c, codes, ok)
			}
		}
	}
}

func TestPlayCommandsOfAtMostSoMany(t *testing.T) {
	l := slices.Repeat([]impl.Command{cmRegister(1)}, 82)
	for _, many := range []int{0, 1, 2, 79, 80} {
		c, codes, ok := impl.PlayCommands(2, l[:many])
		if !ok || !slices.Equal(codes, make([]int, many)) || c.Next != many+1 {
			t.Error(many, c, codes, ok)
		}
		wantCommandPlay(t, "commands", 2, l[:many])
	}
	for _, l := range [][]impl.Command{l[:81], l[:82], slices.Repeat([]impl.Command{cmTick()}, 81)} {
		if c, codes, ok := impl.PlayCommands(2, l); ok || len(codes) != 0 || !sameControl(c, impl.Control{}) {
			t.Error("one more", c, codes, ok)
		}
	}
	c, codes, ok := impl.PlayCommands(4, slices.Repeat([]impl.Command{cmMove(0, 3)}, 80))
	if !ok || !slices.Equal(codes, slices.Repeat([]int{impl.RepUnknown}, 80)) || !sameControl(c, plainControl(4)) {
		t.Error("none is told RepOk", c, codes, ok)
	}
	for _, brokers := range []int{-1, 0, 7, 8} {
		for _, l := range [][]impl.Command{nil, {cmTick()}, l[:4]} {
			if c, codes, ok := impl.PlayCommands(brokers, l); ok || len(codes) != 0 || !sameControl(c, impl.Control{}) {
				t.Error(brokers, c, codes, ok)
			}
		}
	}
}

func TestLeadsIn(t *testing.T) {
	c := running()
	for k, want := range [][]int{nil, {0, 2, 3}, nil, nil, nil} {
		if l, ok := impl.LeadsIn(c, k); !ok || !slices.Equal(l, want) {
			t.Error(k, l, ok)
		}
	}
	c = controlAfter(c, cmTick())
	for k, want := range [][]int{{0}, nil, nil, nil, {3}} {
		if l, ok := impl.LeadsIn(c, k); !ok || !slices.Equal(l, want) {
			t.Error(k, l, ok)
		}
	}
	for _, k := range []int{-2, -1, 5, 6} {
		if l, ok := impl.LeadsIn(c, k); ok || len(l) != 0 {
			t.Error("not there", k, l, ok)
		}
	}
	one := atLimits()
	for k := range one.Parts {
		one.Parts[k].Leader = 5
	}
	if l, ok := impl.LeadsIn(one, 5); !ok || !slices.Equal(l, []int{0, 1, 2, 3, 4}) {
		t.Error("all of them", l, ok)
	}
	if l, ok := impl.LeadsIn(plainControl(1), 0); !ok || len(l) != 0 {
		t.Error("no part", l, ok)
	}
}

func TestLiveBrokersAndOfflineParts(t *testing.T) {
	for _, c := range []struct {
		why           string
		control       impl.Control
		live, offline []int
	}{
		{"new", plainControl(6), nil, nil},
		{"running", running(), []int{0, 1, 4}, []int{1}},
		{"running, later", controlAfter(running(), cmTick()), []int{0, 4}, []int{1, 2}},
		{"at limits", atLimits(), []int{0, 1, 2, 3, 4, 5}, nil},
		{"nobody", controlAfter(plainControl(2), cmCreate(0), cmCreate(0, 1), cmCreate(1)), nil, []int{0, 1, 2}},
		{"one of two", controlAfter(plainControl(2), cmCreate(0), cmCreate(0, 1), cmCreate(1), cmRegister(1)), []int{1}, []int{0}},
	} {
		if l, ok := impl.LiveBrokers(c.control); !ok || !slices.Equal(l, c.live) {
			t.Error(c.why, l, ok)
		}
		if l, ok := impl.OfflineParts(c.control); !ok || !slices.Equal(l, c.offline) {
			t.Error(c.why, l, ok)
		}
	}
}

func TestRandomControlsAndCommands(t *testing.T) {
	r := newRandom()
	for range 300 {
		wantCommands(t, "random", randomControl(r))
	}
}

func TestAnyGoodControlsAndCommands(t *testing.T) {
	r := newRandom()
	for range 1000 {
		c := anyControl(r)
		if !impl.GoodControl(c) {
			t.Fatal(c)
		}
		wantCommands(t, "any", c)
	}
}

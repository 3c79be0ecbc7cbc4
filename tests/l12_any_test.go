package tests

import (
	"math/rand/v2"
	"slices"
	"testing"

	"loop.example/g00361/impl"
)

// Promise 19 for chapter 12: answers at any arguments, nothing written into an
// argument, no memory shared.

// numbersOfControl are the places of all numbers of a control.
func numbersOfControl(c *impl.Control) []*int {
	l := []*int{&c.Next}
	for k := range c.Brokers {
		l = append(l, &c.Brokers[k].Epoch, &c.Brokers[k].Left)
	}
	for k := range c.Parts {
		p := &c.Parts[k]
		l = append(l, &p.Leader, &p.Epoch, &p.Stamp)
		for i := range p.Homes {
			l = append(l, &p.Homes[i])
		}
		for i := range p.InStep {
			l = append(l, &p.InStep[i])
		}
	}
	return l
}

func oddControls() []impl.Control {
	l := []impl.Control{
		{},
		{Brokers: []impl.Broker{}, Parts: []impl.Partition{}},
		{Brokers: make([]impl.Broker, 2), Next: 1 << 40},
		changedControl(func(c *impl.Control) { c.Brokers = make([]impl.Broker, 1<<16) }),
		changedControl(func(c *impl.Control) { c.Brokers = nil }),
		changedControl(func(c *impl.Control) { c.Brokers = c.Brokers[:1] }),
		changedControl(func(c *impl.Control) { c.Parts = make([]impl.Partition, 1<<16) }),
		changedControl(func(c *impl.Control) { c.Parts = slices.Repeat(c.Parts, 1<<12) }),
	}
	for k := range 4 {
		for _, long := range [][]int{nil, make([]int, 1<<16), steps(1<<16, 0, 1)} {
			l = append(l,
				changedControl(func(c *impl.Control) { c.Parts[k].Homes = long }),
				changedControl(func(c *impl.Control) { c.Parts[k].InStep = long }),
				changedControl(func(c *impl.Control) { c.Parts[k].Homes, c.Parts[k].InStep = long, long }))
		}
		l = append(l, changedControl(func(c *impl.Control) { c.Parts[k] = impl.Partition{} }))
	}
	for k := range 5 {
		l = append(l,
			changedControl(func(c *impl.Control) { c.Brokers[k] = impl.Broker{} }),
			changedControl(func(c *impl.Control) { c.Brokers[k].Fenced = !c.Brokers[k].Fenced }))
	}
	first := running()
	for _, n := range append(oddNumbers(), -2, 2, 3, 4, 5, 6, 7, 9, 10, 63, 64, 65, 999, 1000) {
		for i := range numbersOfControl(&first) {
			c := running()
			*numbersOfControl(&c)[i] = n
			l = append(l, c)
		}
		all := running()
		for _, p := range numbersOfControl(&all) {
			*p = n
		}
		l = append(l, all)
	}
	return l
}

func TestAnyControlIsAnswered(t *testing.T) {
	for _, c := range oddControls() {
		wantControl(t, "odd", c)
		for _, x := range commandsOn(running()) {
			wantCommand(t, "odd", c, x)
		}
	}
}

func TestAnyCommandIsAnswered(t *testing.T) {
	numbers := append(oddNumbers(), 2, 3, 4, 5, 6, 7, 9, 63, 64, 999, 1000)
	lists := [][]int{nil, {}, {0}, {0, 1}, {1, 0}, {-1}, {64}, {1 << 62}, make([]int, 1<<12), steps(1<<12, 0, 1)}
	var all []impl.Command
	for kind := -1; kind <= 7; kind++ {
		for _, some := range lists {
			all = append(all, impl.Command{Kind: kind, InStep: some}, impl.Command{Kind: kind, Broker: 1, Epoch: 4, Stamp: 9, InStep: some})
		}
		for _, a := range numbers {
			for _, b := range numbers {
				all = append(all,
					impl.Command{Kind: kind, Broker: a, Epoch: b},
					impl.Command{Kind: kind, Broker: a, Part: b},
					impl.Command{Kind: kind, Epoch: a, Stamp: b, Broker: 1, InStep: []int{1}},
					impl.Command{Kind: kind, Part: a, Stamp: b, Broker: 1, Epoch: 4, InStep: []int{0, 1}})
			}
		}
	}
	for _, n := range numbers {
		all = append(all, impl.Command{Kind: n}, impl.Command{Kind: n, Broker: n, Epoch: n, Part: n, Stamp: n, InStep: []int{n, n}})
	}
	for _, c := range []impl.Control{{}, running(), plainControl(1), plainControl(6), atLimits(), badControls()["a Next of 0"]} {
		for _, x := range all {
			wantCommand(t, "odd", c, x)
		}
	}
	for i, x := range all {
		wantCommandPlay(t, "odd", 3, []impl.Command{x})
		wantCommandPlay(t, "odd", 3, []impl.Command{cmRegister(1), cmCreate(0, 1), x, cmTick(), all[len(all)-1-i]})
	}
	wantCommandPlay(t, "many", 3, make([]impl.Command, 1<<16))
	wantCommandPlay(t, "many good ones", 2, slices.Repeat([]impl.Command{cmTick()}, 1<<16))
}

func TestAnyNumbersOfBrokersAreAnswered(t *testing.T) {
	for _, n := range append(oddNumbers(), 2, 3, 4, 5, 6, 7) {
		want, wanted := plainNewControl(n)
		if c, ok := impl.NewControl(n); ok != wanted || !sameControl(c, want) {
			t.Error(n, c, ok)
		}
		wantCommandPlay(t, "odd", n, nil)
		wantCommandPlay(t, "odd", n, []impl.Command{cmRegister(0), cmCreate(0), cmTick()})
		for why, c := range someControls() {
			want, wanted := plainPartsLed(c, n)
			if l, ok := impl.LeadsIn(c, n); !slices.Equal(l, want) || ok != wanted {
				t.Error(why, n, l, ok)
			}
		}
	}
}

// shiftedControl changes one number or list of a control a little.
func shiftedControl(r *rand.Rand, first impl.Control) impl.Control {
	c := copyOfControl(first)
	b := &c.Brokers[r.IntN(len(c.Brokers))]
	if len(c.Parts) == 0 || r.IntN(3) == 0 {
		switch r.IntN(4) {
		case 0:
			b.Fenced = !b.Fenced
		case 1:
			b.Left = r.IntN(11)
			b.Fenced = b.Left == 0
		case 2:
			b.Epoch = r.IntN(c.Next + 1)
		default:
			c.Next += 1 - 2*r.IntN(2)
		}
		return c
	}
	p := &c.Parts[r.IntN(len(c.Parts))]
	switch r.IntN(6) {
	case 0:
		p.Leader = r.IntN(len(c.Brokers)+1) - 1
	case 1:
		p.InStep = listOf(r.IntN(1 << len(c.Brokers)))
	case 2:
		p.Homes = listOf(r.IntN(1 << len(c.Brokers)))
	case 3:
		c.Parts = append(c.Parts, c.Parts[0])
	default:
		numbers := numbersOfControl(&c)
		*numbers[r.IntN(len(numbers))] += 1 - 2*r.IntN(2)
	}
	return c
}

func TestControlsNearToGoodOnesAreAnswered(t *testing.T) {
	r := newRandom()
	good := 0
	for i := range 2000 {
		first := randomControl(r)
		if i%2 == 0 {
			first = anyControl(r)
		}
		near := shiftedControl(r, first)
		if plainControlGood(near) {
			good++
		}
		wantControl(t, "near", near)
		for _, x := range commandsOn(first) {
			wantCommand(t, "near", near, x)
		}
	}
	if good < 400 || good > 1600 {
		t.Error("one kind of controls alone", good)
	}
}

// roomyControl is the same control, all its lists with room behind their length, in
// which stands what would be taken for more of them.
func roomyControl(first impl.Control) impl.Control {
	c := first
	c.Parts = nil
	for _, p := range first.Parts {
		p.Homes, _ = roomyList(p.Homes, len(first.Brokers)-1, -7)
		p.InStep, _ = roomyList(p.InStep, len(first.Brokers)-1, -7)
		c.Parts = append(c.Parts, p)
	}
	c.Parts, _ = roomyList(c.Parts, impl.Partition{Homes: []int{0}, InStep: []int{0}, Leader: -1}, impl.Partition{Epoch: -7})
	c.Brokers, _ = roomyList(c.Brokers, impl.Broker{Fenced: true}, impl.Broker{Epoch: -7})
	return c
}

// memoryOfControl is a control with all its lists up to the end of their memory.
func memoryOfControl(c impl.Control) impl.Control {
	c.Brokers = c.Brokers[:cap(c.Brokers)]
	c.Parts = slices.Clone(c.Parts[:cap(c.Parts)])
	for k, p := range c.Parts {
		c.Parts[k].Homes, c.Parts[k].InStep = p.Homes[:cap(p.Homes)], p.InStep[:cap(p.InStep)]
	}
	return c
}

// tightControls are good ones, some of them with lists that are pieces of one memory.
func tightControls() map[string]impl.Control {
	all := someControls()
	memory := steps(5, 0, 1)
	same := running()
	for k := range same.Parts {
		same.Parts[k] = impl.Partition{Homes: memory, InStep: memory, Leader: 1, Epoch: k, Stamp: k}
	}
	all["one list for all"] = same
	pieces := copyOfControl(running())
	for k := range pieces.Parts {
		pieces.Parts[k] = impl.Partition{Homes: memory[:k+2], InStep: memory[1 : k+2], Leader: 1}
	}
	all["pieces of one memory"] = pieces
	ends := copyOfControl(running())
	for k := range ends.Parts {
		ends.Parts[k] = impl.Partition{Homes: memory[k:], InStep: memory[4:], Leader: 4}
	}
	all["ends of one memory"] = ends
	bare := plainControl(3)
	bare.Parts = running().Parts[2:2]
	all["an empty piece"] = bare
	return all
}

// commandsWithRoom are commands whose lists are of the control's own memory, and the
// same with room behind their length.
func commandsWithRoom(c impl.Control) []impl.Command {
	l := commandsOn(c)
	for part, p := range c.Parts[:min(6, len(c.Parts))] {
		l = append(l, cmCreate(p.Homes...), cmCreate(p.InStep...), cmAlter(part, p.Leader, p.Epoch, p.Stamp, p.InStep...),
			cmAlter(part, p.Leader, p.Epoch, p.Stamp, p.Homes...))
	}
	for _, x := range slices.Clone(l) {
		if len(x.InStep) > 0 {
			x.InStep, _ = roomyList(x.InStep, len(c.Brokers)-1, -7)
			l = append(l, x)
		}
	}
	return l
}

func TestControlsStayAsTheyAre(t *testing.T) {
	all := badControls()
	for why, c := range tightControls() {
		all[why] = c
	}
	for why, first := range all {
		c := roomyControl(first)
		if !sameControl(c, first) {
			t.Fatal("the control with room is not the same", why)
		}
		before := copyOfControl(memoryOfControl(c))
		wantControl(t, why, c)
		for _, x := range commandsWithRoom(c) {
			memory := slices.Clone(x.InStep[:cap(x.InStep)])
			wantCommand(t, why, c, x)
			if !slices.Equal(x.InStep[:cap(x.InStep)], memory) {
				t.Error("written into the command:", why, x)
			}
		}
		if !sameControl(c, first) || !sameControl(memoryOfControl(c), before) {
			t.Error("written into the control:", why)
		}
	}
}

// What lies behind a list's end in its memory is not written over by what comes
// behind the list.
func TestControlsThatShareTheirMemoryStayAsTheyAre(t *testing.T) {
	for why, c := range tightControls() {
		before := copyOfControl(memoryOfControl(c))
		wantCommands(t, why, c)
		for _, x := range commandsWithRoom(c) {
			wantCommand(t, why, c, x)
		}
		if !sameControl(memoryOfControl(c), before) {
			t.Error("written into the control:", why)
		}
	}
}

func TestCommandsStayAsTheyAre(t *testing.T) {
	r := newRandom()
	for many := range 83 {
		brokers := 1 + r.IntN(6)
		l, memory := roomyList(randomCommands(r, brokers, many), cmTick(), impl.Command{Kind: -7})
		before := copyOfCommands(memory)
		wantCommandPlay(t, "room", brokers, l)
		if !slices.EqualFunc(memory, before, sameCommand) {
			t.Error("written into the commands", many)
		}
	}
}

func listsOfParts(c impl.Control) [][]int {
	var l [][]int
	for _, p := range c.Parts {
		l = append(l, p.Homes, p.InStep)
	}
	return l
}

// wantOwnControl asks that nothing of the answer is of the arguments' memory, nor two
// of its lists of one.
func wantOwnControl(t *testing.T, why string, c impl.Control, l []impl.Command, got impl.Control) {
	t.Helper()
	if listsShare(c.Brokers, got.Brokers) || listsShare(c.Parts, got.Parts) {
		t.Error(why, "a list is shared")
	}
	given := listsOfParts(c)
	for _, x := range l {
		given = append(given, x.InStep)
	}
	own := listsOfParts(got)
	for i, one := range own {
		for _, other := range given {
			if listsShare(one, other) {
				t.Error(why, "a list of a part is shared", i)
			}
		}
		for _, other := range own[:i] {
			if listsShare(one, other) {
				t.Error(why, "two lists share", i)
			}
		}
	}
}

func TestControlsShareNoMemory(t *testing.T) {
	for why, first := range tightControls() {
		if !impl.GoodControl(first) {
			t.Fatal(why)
		}
		for _, c := range []impl.Control{first, roomyControl(first)} {
			for _, x := range commandsWithRoom(c) {
				if got, _, ok := impl.DoCommand(c, x); ok {
					wantOwnControl(t, why, c, []impl.Command{x}, got)
				}
			}
			live, _ := impl.LiveBrokers(c)
			offline, _ := impl.OfflineParts(c)
			leads, _ := impl.LeadsIn(c, 0)
			for _, given := range listsOfParts(c) {
				if listsShare(given, live) || listsShare(given, offline) || listsShare(given, leads) {
					t.Error(why, "an answered list is shared")
				}
			}
		}
	}
	r := newRandom()
	for range 100 {
		brokers := 1 + r.IntN(6)
		l := randomCommands(r, brokers, 80)
		got, _, _ := impl.PlayCommands(brokers, l)
		wantOwnControl(t, "played", impl.Control{}, l, got)
	}
}

// spoilControl writes into all of a control's memory.
func spoilControl(c impl.Control) {
	for _, l := range listsOfParts(c) {
		fill(l)
	}
	for k := range c.Parts[:cap(c.Parts)] {
		c.Parts[:cap(c.Parts)][k] = impl.Partition{Epoch: -9}
	}
	for k := range c.Brokers[:cap(c.Brokers)] {
		c.Brokers[:cap(c.Brokers)][k] = impl.Broker{Epoch: -9}
	}
}

// What is done to an answer, up to the end of its memory, is not seen in an
// argument, nor in what is answered next.
func TestAnsweredControlsMayBeWrittenInto(t *testing.T) {
	for why, first := range tightControls() {
		c := roomyControl(first)
		before := copyOfControl(memoryOfControl(c))
		for range 2 {
			for _, x := range commandsWithRoom(c) {
				memory := slices.Clone(x.InStep[:cap(x.InStep)])
				got, _, _ := wantCommand(t, why, c, x)
				spoilControl(got)
				if !slices.Equal(x.InStep[:cap(x.InStep)], memory) {
					t.Error("written into the command:", why, x)
				}
			}
			for k := range c.Brokers {
				leads, _ := impl.LeadsIn(c, k)
				fill(leads)
			}
			live, _ := impl.LiveBrokers(c)
			fill(live)
			offline, _ := impl.OfflineParts(c)
			fill(offline)
			wantControl(t, why, c)
		}
		if !sameControl(memoryOfControl(c), before) {
			t.Error("written into the control:", why)
		}
	}
	l := []impl.Command{cmRegister(0), cmRegister(1), cmCreate(0, 1), cmAlter(0, 0, 1, 1, 0), cmTick(), cmMove(0, 1), cmCreate(1)}
	for range 2 {
		c, codes, _ := impl.PlayCommands(2, l)
		spoilControl(c)
		fill(codes)
		wantCommandPlay(t, "once more", 2, l)
		fresh, _ := impl.NewControl(3)
		spoilControl(fresh)
	}
	TestNewControl(t)
}

// What is refused hands out nothing, not even an empty list with memory of an
// argument behind it.
func TestRefusedControlsHandOutNothing(t *testing.T) {
	all := badControls()
	for why, c := range someControls() {
		all[why] = c
	}
	for why, first := range all {
		c := roomyControl(first)
		for _, x := range commandsOn(c) {
			if got, code, ok := impl.DoCommand(c, x); !ok && cap(got.Brokers)+cap(got.Parts)+got.Next+code != 0 {
				t.Error(why, x, got, code)
			}
		}
	}
	for why, first := range badControls() {
		c := roomyControl(first)
		live, liveOk := impl.LiveBrokers(c)
		offline, offlineOk := impl.OfflineParts(c)
		leads, leadsOk := impl.LeadsIn(c, 0)
		if liveOk || offlineOk || leadsOk || cap(live)+cap(offline)+cap(leads) != 0 {
			t.Error(why, live, offline, leads)
		}
	}
	for _, brokers := range []int{-1, 0, 7} {
		if c, ok := impl.NewControl(brokers); ok || cap(c.Brokers)+cap(c.Parts) != 0 {
			t.Error(brokers, c, ok)
		}
		if c, codes, ok := impl.PlayCommands(brokers, []impl.Command{cmTick()}); ok || cap(c.Brokers)+cap(c.Parts)+cap(codes) != 0 {
			t.Error(brokers, c, codes, ok)
		}
	}
	for why, l := range map[string][]impl.Command{
		"one command too many": slices.Repeat([]impl.Command{cmTick()}, 81),
		"one that is none":     {cmRegister(0), cmCreate(0), {}},
	} {
		if c, codes, ok := impl.PlayCommands(3, l); ok || cap(c.Brokers)+cap(c.Parts)+cap(codes) != 0 {
			t.Error(why, c, codes, ok)
		}
	}
}

package tests

import (
	"math/rand/v2"
	"slices"

	"loop.example/g00361/impl"
)

// What chapter 12 says, written once more in the plainest way: sentence by sentence,
// and each limit as a number.

// plainControl has so many brokers at its beginning, however many.
func plainControl(brokers int) impl.Control {
	c := impl.Control{Next: 1}
	for range brokers {
		c.Brokers = append(c.Brokers, impl.Broker{Fenced: true})
	}
	return c
}

func plainNewControl(brokers int) (impl.Control, bool) {
	if brokers < 1 || brokers > 6 {
		return impl.Control{}, false
	}
	return plainControl(brokers), true
}

func plainBrokerGood(b impl.Broker, next int) bool {
	if b.Epoch < 0 || b.Epoch >= next || b.Left < 0 || b.Left > 9 {
		return false
	}
	if b.Epoch == 0 && b.Left != 0 {
		return false
	}
	if b.Left == 0 {
		return b.Fenced
	}
	return !b.Fenced
}

func plainPartitionGood(p impl.Partition, brokers []impl.Broker) bool {
	if !plainRising(p.Homes, len(brokers)) || len(p.Homes) < 1 || len(p.Homes) > 6 {
		return false
	}
	if !plainRising(p.InStep, len(brokers)) || len(p.InStep) < 1 {
		return false
	}
	all := true
	for _, k := range p.InStep {
		if !slices.Contains(p.Homes, k) {
			return false
		}
		all = all && brokers[k].Fenced
	}
	if p.Epoch < 0 || p.Epoch > 1000 || p.Stamp < 0 || p.Stamp > 1000 {
		return false
	}
	if p.Leader == -1 {
		return all
	}
	return slices.Contains(p.InStep, p.Leader) && !brokers[p.Leader].Fenced
}

func plainControlGood(c impl.Control) bool {
	if len(c.Brokers) < 1 || len(c.Brokers) > 6 || len(c.Parts) > 5 || c.Next < 1 || c.Next > 1000 {
		return false
	}
	for _, b := range c.Brokers {
		if !plainBrokerGood(b, c.Next) {
			return false
		}
	}
	for _, p := range c.Parts {
		if !plainPartitionGood(p, c.Brokers) {
			return false
		}
	}
	return true
}

func plainCommandGood(x impl.Command, brokers int) bool {
	if x.Broker < 0 || x.Broker >= brokers || !plainRising(x.InStep, brokers) {
		return false
	}
	for _, n := range []int{x.Epoch, x.Part, x.Stamp} {
		if n < 0 || n > 1000 {
			return false
		}
	}
	noBroker, noEpoch, noPart := x.Broker == 0, x.Epoch == 0, x.Part == 0
	noStamp, noInStep := x.Stamp == 0, len(x.InStep) == 0
	switch x.Kind {
	case 1:
		return noEpoch && noPart && noStamp && noInStep
	case 2:
		return noPart && noStamp && noInStep
	case 3:
		return noBroker && noEpoch && noPart && noStamp && noInStep
	case 4:
		return noBroker && noEpoch && noPart && noStamp
	case 5:
		return true
	case 6:
		return noEpoch && noStamp && noInStep
	}
	return false
}

// plainCommandDone changes the control as the sentence of its kind says, and tells
// the code.
func plainCommandDone(c *impl.Control, x impl.Command) int {
	b := &c.Brokers[x.Broker]
	switch x.Kind {
	case 1:
		b.Epoch, b.Left = c.Next, 9
		c.Next++
		if c.Next > 1000 {
			return 4
		}
	case 2:
		if b.Epoch == 0 {
			return 1
		}
		if b.Epoch != x.Epoch {
			return 2
		}
		b.Left = 9
	case 3:
		for k := range c.Brokers {
			if c.Brokers[k].Left > 0 {
				c.Brokers[k].Left--
			}
		}
	case 4:
		if len(x.InStep) < 1 || len(c.Parts) >= 5 {
			return 4
		}
		c.Parts = append(c.Parts, impl.Partition{Homes: slices.Clone(x.InStep), InStep: slices.Clone(x.InStep), Leader: -1})
	default:
		if x.Part >= len(c.Parts) {
			return 1
		}
		if x.Kind == 5 {
			return plainAltered(c, &c.Parts[x.Part], x)
		}
		if !slices.Contains(c.Parts[x.Part].InStep, x.Broker) || b.Fenced {
			return 4
		}
		c.Parts[x.Part].Leader = x.Broker
	}
	return 0
}

func plainAltered(c *impl.Control, p *impl.Partition, x impl.Command) int {
	if x.Epoch != p.Epoch {
		return 2
	}
	if x.Broker != p.Leader {
		return 3
	}
	if x.Stamp != p.Stamp {
		return 2
	}
	for _, k := range x.InStep {
		if !slices.Contains(p.Homes, k) {
			return 4
		}
		if c.Brokers[k].Fenced && !slices.Contains(p.InStep, k) {
			return 4
		}
	}
	if !slices.Contains(x.InStep, p.Leader) {
		return 4
	}
	p.InStep = slices.Clone(x.InStep)
	p.Stamp++
	return 0
}

// plainBehind does what comes behind each command that is told RepOk, and tells
// whether nothing is beyond 1000.
func plainBehind(c *impl.Control, before impl.Control) bool {
	for k := range c.Brokers {
		c.Brokers[k].Fenced = c.Brokers[k].Left == 0
	}
	for k := range c.Parts {
		p := &c.Parts[k]
		if p.Leader == -1 || c.Brokers[p.Leader].Fenced {
			p.Leader = -1
			for _, one := range slices.Backward(p.InStep) {
				if !c.Brokers[one].Fenced {
					p.Leader = one
				}
			}
		}
		if k == len(before.Parts) || before.Parts[k].Leader != p.Leader {
			p.Stamp++
			if p.Leader >= 0 {
				p.Epoch++
			}
		}
		if p.Stamp > 1000 || p.Epoch > 1000 {
			return false
		}
	}
	return true
}

func plainDo(c impl.Control, x impl.Command) (impl.Control, int, bool) {
	if !plainControlGood(c) || !plainCommandGood(x, len(c.Brokers)) {
		return impl.Control{}, 0, false
	}
	next := copyOfControl(c)
	code := plainCommandDone(&next, x)
	if code == 0 && !plainBehind(&next, c) {
		code = 4
	}
	if code != 0 {
		return c, code, true
	}
	return next, 0, true
}

func plainPlayCommands(brokers int, l []impl.Command) (impl.Control, []int, bool) {
	c, ok := plainNewControl(brokers)
	if !ok || len(l) > 80 {
		return impl.Control{}, nil, false
	}
	var codes []int
	for _, x := range l {
		next, code, ok := plainDo(c, x)
		if !ok {
			return impl.Control{}, nil, false
		}
		c = next
		codes = append(codes, code)
	}
	return c, codes, true
}

// plainLedBy are the parts with such a Leader.
func plainLedBy(c impl.Control, leader int) ([]int, bool) {
	var l []int
	for k, p := range c.Parts {
		if p.Leader == leader {
			l = append(l, k)
		}
	}
	return l, true
}

func plainPartsLed(c impl.Control, broker int) ([]int, bool) {
	if !plainControlGood(c) || broker < 0 || broker >= len(c.Brokers) {
		return nil, false
	}
	return plainLedBy(c, broker)
}

func plainOffline(c impl.Control) ([]int, bool) {
	if !plainControlGood(c) {
		return nil, false
	}
	return plainLedBy(c, -1)
}

func plainLive(c impl.Control) ([]int, bool) {
	if !plainControlGood(c) {
		return nil, false
	}
	var l []int
	for k, b := range c.Brokers {
		if b.Left > 0 {
			l = append(l, k)
		}
	}
	return l, true
}

func cmRegister(broker int) impl.Command {
	return impl.Command{Kind: impl.CmRegister, Broker: broker}
}

func cmBeat(broker, epoch int) impl.Command {
	return impl.Command{Kind: impl.CmBeat, Broker: broker, Epoch: epoch}
}

func cmTick() impl.Command {
	return impl.Command{Kind: impl.CmTick}
}

func cmCreate(homes ...int) impl.Command {
	return impl.Command{Kind: impl.CmCreate, InStep: homes}
}

func cmAlter(part, broker, epoch, stamp int, some ...int) impl.Command {
	return impl.Command{Kind: impl.CmAlter, Part: part, Broker: broker, Epoch: epoch, Stamp: stamp, InStep: some}
}

func cmMove(part, broker int) impl.Command {
	return impl.Command{Kind: impl.CmMove, Part: part, Broker: broker}
}

// controlAfter is where commands lead; each must be told RepOk.
func controlAfter(c impl.Control, l ...impl.Command) impl.Control {
	for _, x := range l {
		next, code, ok := plainDo(c, x)
		if !ok || code != 0 {
			panic("no such command")
		}
		c = next
	}
	return c
}

func samePartition(a, b impl.Partition) bool {
	return slices.Equal(a.Homes, b.Homes) && slices.Equal(a.InStep, b.InStep) &&
		a.Leader == b.Leader && a.Epoch == b.Epoch && a.Stamp == b.Stamp
}

func sameControl(a, b impl.Control) bool {
	return slices.Equal(a.Brokers, b.Brokers) && slices.EqualFunc(a.Parts, b.Parts, samePartition) && a.Next == b.Next
}

func sameCommand(a, b impl.Command) bool {
	return a.Kind == b.Kind && a.Broker == b.Broker && a.Epoch == b.Epoch && a.Part == b.Part &&
		a.Stamp == b.Stamp && slices.Equal(a.InStep, b.InStep)
}

// copyOfControl shares no list with what it is given.
func copyOfControl(c impl.Control) impl.Control {
	c.Brokers = slices.Clone(c.Brokers)
	c.Parts = slices.Clone(c.Parts)
	for k, p := range c.Parts {
		c.Parts[k].Homes = slices.Clone(p.Homes)
		c.Parts[k].InStep = slices.Clone(p.InStep)
	}
	return c
}

func copyOfCommands(l []impl.Command) []impl.Command {
	l = slices.Clone(l)
	for i, x := range l {
		l[i].InStep = slices.Clone(x.InStep)
	}
	return l
}

// listOf are the members whose bits a number has.
func listOf(bits int) []int {
	var l []int
	for k := range 8 {
		if bits>>k&1 == 1 {
			l = append(l, k)
		}
	}
	return l
}

// commandsOn are the commands that such a control has, and those right beside them.
func commandsOn(c impl.Control) []impl.Command {
	l := []impl.Command{cmTick(), cmCreate(), cmCreate(1, 0), cmCreate(0, 0), cmCreate(-1), cmCreate(0, len(c.Brokers))}
	for bits := range min(8, 1<<len(c.Brokers)) {
		l = append(l, cmCreate(listOf(bits)...))
	}
	for k := -1; k <= min(6, len(c.Brokers)); k++ {
		l = append(l, cmRegister(k), cmBeat(k, 0), cmBeat(k, 1), cmBeat(k, 2), cmBeat(k, 1000), cmBeat(k, 1001))
		if k >= 0 && k < len(c.Brokers) {
			own := c.Brokers[k].Epoch
			l = append(l, cmBeat(k, own), cmBeat(k, own-1))
		}
		for part := -1; part <= min(5, len(c.Parts)); part++ {
			l = append(l, cmMove(part, k))
		}
	}
	for part, p := range c.Parts[:min(6, len(c.Parts))] {
		l = append(l, altersOn(p, part, min(6, len(c.Brokers)))...)
	}
	return append(l, strayCommands(c)...)
}

// altersOn are those of one part: all lists of who may be in step as its leader asks
// for them, and what is asked with each other number.
func altersOn(p impl.Partition, part, brokers int) []impl.Command {
	var l []impl.Command
	for bits := range 1 << brokers {
		l = append(l, cmAlter(part, p.Leader, p.Epoch, p.Stamp, listOf(bits)...))
	}
	for k := -1; k <= brokers; k++ {
		l = append(l, cmAlter(part, k, p.Epoch, p.Stamp, p.InStep...), cmAlter(part, k, p.Epoch, p.Stamp+1, p.InStep...),
			cmAlter(part, k, p.Epoch+1, p.Stamp, p.InStep...), cmAlter(part, k, p.Epoch, p.Stamp, k))
	}
	for _, by := range []int{-1, 1} {
		l = append(l, cmAlter(part, p.Leader, p.Epoch+by, p.Stamp, p.InStep...), cmAlter(part, p.Leader, p.Epoch, p.Stamp+by, p.InStep...),
			cmAlter(part, p.Leader, p.Epoch+by, p.Stamp+by), cmAlter(part, p.Leader, p.Epoch, p.Stamp+by))
	}
	back := slices.Clone(p.InStep)
	slices.Reverse(back)
	return append(l, cmAlter(part, p.Leader, p.Epoch, p.Stamp, back...),
		cmAlter(part, p.Leader, p.Epoch, p.Stamp, p.Homes...), cmAlter(part, p.Leader, p.Epoch, p.Stamp, append(back, back...)...),
		cmAlter(part, p.Leader, p.Epoch, p.Stamp, append(slices.Clone(p.InStep), brokers)...))
}

// strayCommands have a number in a field for which they have no use, or beyond its
// limits, or are of no kind.
func strayCommands(c impl.Control) []impl.Command {
	first := []impl.Command{cmRegister(0), cmBeat(0, 1), cmTick(), cmCreate(0), cmMove(0, 0), {Kind: -1}, {}, {Kind: 7}}
	if len(c.Parts) > 0 {
		p := c.Parts[0]
		first = append(first, cmAlter(0, p.Leader, p.Epoch, p.Stamp, p.InStep...))
	}
	var l []impl.Command
	for _, x := range first {
		l = append(l, x)
		for _, n := range []int{-1, 1, 1000, 1001} {
			for field := range 4 {
				y := x
				*numbersOfCommand(&y)[1+field] = n
				l = append(l, y)
			}
		}
		for _, some := range [][]int{nil, {0}, {1}, {1, 0}, {7}} {
			y := x
			y.InStep = some
			l = append(l, y)
		}
	}
	return l
}

// numbersOfCommand are the places of all numbers of a command.
func numbersOfCommand(x *impl.Command) []*int {
	l := []*int{&x.Kind, &x.Broker, &x.Epoch, &x.Part, &x.Stamp}
	for i := range x.InStep {
		l = append(l, &x.InStep[i])
	}
	return l
}

// randomCommand is one that mostly is told RepOk.
func randomCommand(r *rand.Rand, c impl.Control) impl.Command {
	brokers := len(c.Brokers)
	k := r.IntN(brokers)
	some := listOf(r.IntN(1 << brokers))
	if len(c.Parts) == 0 || len(c.Parts) < 5 && r.IntN(20) == 0 {
		return []impl.Command{cmCreate(some...), cmRegister(k), cmCreate(steps(brokers, 0, 1)...)}[r.IntN(3)]
	}
	part := r.IntN(len(c.Parts))
	p := c.Parts[part]
	switch n := r.IntN(40); {
	case n < 3:
		return cmRegister(k)
	case n < 10:
		return cmBeat(k, c.Brokers[k].Epoch)
	case n < 11:
		return cmBeat(k, r.IntN(4))
	case n < 24:
		return cmTick()
	case n < 25:
		return cmCreate(some...)
	case n < 30:
		return cmAlter(part, max(0, p.Leader), p.Epoch, p.Stamp, listOf(r.IntN(1<<brokers)|1<<max(0, p.Leader))...)
	case n < 31:
		return cmAlter(part, k, p.Epoch, p.Stamp-r.IntN(min(2, p.Stamp+1)), some...)
	case n < 32:
		return cmAlter(r.IntN(6), k, r.IntN(4), r.IntN(4), some...)
	case n < 36:
		return cmMove(part, p.InStep[r.IntN(len(p.InStep))])
	}
	return cmMove(part, k)
}

// randomCommands are such commands, each for where those ahead of it lead.
func randomCommands(r *rand.Rand, brokers, many int) []impl.Command {
	now := plainControl(brokers)
	var l []impl.Command
	for range many {
		x := randomCommand(r, now)
		l = append(l, x)
		if next, _, ok := plainDo(now, x); ok {
			now = next
		}
	}
	return l
}

// randomControl is one that commands lead to.
func randomControl(r *rand.Rand) impl.Control {
	brokers := 1 + r.IntN(6)
	out, _, _ := plainPlayCommands(brokers, randomCommands(r, brokers, r.IntN(81)))
	return out
}

// anyControl is good by chance alone: which numbers it has has nothing to do with how
// it came.
func anyControl(r *rand.Rand) impl.Control {
	edges := []int{0, 1, 2, 500, 998, 999, 1000}
	c := impl.Control{Next: []int{1, 2, 3, 500, 999, 1000}[r.IntN(6)]}
	for range 1 + r.IntN(6) {
		b := impl.Broker{Epoch: r.IntN(c.Next)}
		if b.Epoch > 0 {
			b.Left = []int{0, 0, 1, 1, 2, 9}[r.IntN(6)]
		}
		b.Fenced = b.Left == 0
		c.Brokers = append(c.Brokers, b)
	}
	all := 1 << len(c.Brokers)
	for range r.IntN(6) {
		homes := 1 + r.IntN(all-1)
		some := homes & r.IntN(all)
		if some == 0 {
			some = homes
		}
		p := impl.Partition{Homes: listOf(homes), InStep: listOf(some), Leader: -1, Epoch: edges[r.IntN(7)], Stamp: edges[r.IntN(7)]}
		for _, at := range r.Perm(len(p.InStep)) {
			if k := p.InStep[at]; !c.Brokers[k].Fenced {
				p.Leader = k
			}
		}
		c.Parts = append(c.Parts, p)
	}
	return c
}

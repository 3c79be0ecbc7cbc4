package tests

import (
	"math/rand/v2"
	"slices"

	"loop.example/g00361/impl"
)

// What chapter 11 says, written once more in the plainest way: row by row, and each
// limit as a number.

// plainIsr has so many replicas at its beginning, however many.
func plainIsr(replicas int) impl.Group {
	var g impl.Group
	for k := range replicas {
		g.InStep = append(g.InStep, k)
		g.Replicas = append(g.Replicas, impl.Replica{})
	}
	return g
}

func plainNewIsr(replicas int) (impl.Group, bool) {
	if replicas < 2 || replicas > 4 {
		return impl.Group{}, false
	}
	return plainIsr(replicas), true
}

func plainRowsGood(l []impl.Row, mostEpoch int) bool {
	if len(l) > 30 {
		return false
	}
	for i, r := range l {
		if r.Epoch < 0 || r.Epoch > mostEpoch || r.Value < 0 || r.Value > 99 {
			return false
		}
		if i > 0 && l[i-1].Epoch > r.Epoch {
			return false
		}
	}
	return true
}

// plainShared is how many first rows two logs have alike.
func plainShared(a, b []impl.Row) int {
	for many := min(len(a), len(b)); many > 0; many-- {
		if slices.Equal(a[:many], b[:many]) {
			return many
		}
	}
	return 0
}

func plainIsrGood(g impl.Group) bool {
	replicas := len(g.Replicas)
	if replicas < 2 || replicas > 4 || g.Epoch < 0 || g.Epoch > 100 || g.High < 0 {
		return false
	}
	if !plainRising(g.InStep, replicas) || !slices.Contains(g.InStep, g.Leader) {
		return false
	}
	for k, r := range g.Replicas {
		if !plainRowsGood(r.Log, g.Epoch) || r.Epoch < 0 || r.Epoch > g.Epoch || r.Known < 0 || r.Known > len(r.Log) {
			return false
		}
		shared := plainShared(r.Log, g.Replicas[g.Leader].Log)
		if r.Epoch == g.Epoch && shared < r.Known {
			return false
		}
		if slices.Contains(g.InStep, k) && shared < g.High {
			return false
		}
	}
	return true
}

func plainIsElect(g *impl.Group, k int) bool {
	if !slices.Contains(g.InStep, k) || g.Epoch > 99 {
		return false
	}
	g.Epoch++
	g.Leader = k
	g.Replicas[k].Epoch = g.Epoch
	g.Replicas[k].Known = len(g.Replicas[k].Log)
	return true
}

func plainIsAppend(g *impl.Group, n int) bool {
	r := &g.Replicas[g.Leader]
	if n < 0 || n > 99 || len(r.Log) > 29 {
		return false
	}
	r.Log = append(r.Log, impl.Row{Epoch: g.Epoch, Value: n})
	r.Epoch = g.Epoch
	r.Known = len(r.Log)
	return true
}

func plainIsFetch(g *impl.Group, k, n int) bool {
	if k < 0 || k >= len(g.Replicas) || k == g.Leader || n < 0 || n > 30 {
		return false
	}
	r, lead := &g.Replicas[k], g.Replicas[g.Leader].Log
	r.Log = slices.Clone(r.Log[:plainShared(r.Log, lead)])
	for ; n > 0 && len(r.Log) < len(lead); n-- {
		r.Log = append(r.Log, lead[len(r.Log)])
	}
	r.Epoch = g.Epoch
	r.Known = len(r.Log)
	return true
}

func plainIsShrink(g *impl.Group, k int) bool {
	at := slices.Index(g.InStep, k)
	if at < 0 || k == g.Leader {
		return false
	}
	g.InStep = slices.Delete(g.InStep, at, at+1)
	return true
}

func plainIsExpand(g *impl.Group, k int) bool {
	if k < 0 || k >= len(g.Replicas) || slices.Contains(g.InStep, k) {
		return false
	}
	if g.Replicas[k].Epoch != g.Epoch || g.Replicas[k].Known < g.High {
		return false
	}
	g.InStep = append(g.InStep, k)
	slices.Sort(g.InStep)
	return true
}

func plainIsRaise(g *impl.Group) bool {
	var known []int
	for _, k := range g.InStep {
		if g.Replicas[k].Epoch != g.Epoch {
			return false
		}
		known = append(known, g.Replicas[k].Known)
	}
	if slices.Min(known) <= g.High {
		return false
	}
	g.High = slices.Min(known)
	return true
}

func plainIsrStep(g impl.Group, x impl.IsrStep) (impl.Group, bool) {
	if !plainIsrGood(g) {
		return impl.Group{}, false
	}
	g = copyOfIsr(g)
	done := false
	switch x.Kind {
	case 1:
		done = x.N == 0 && plainIsElect(&g, x.K)
	case 2:
		done = x.K == 0 && plainIsAppend(&g, x.N)
	case 3:
		done = plainIsFetch(&g, x.K, x.N)
	case 4:
		done = x.N == 0 && plainIsShrink(&g, x.K)
	case 5:
		done = x.N == 0 && plainIsExpand(&g, x.K)
	case 6:
		done = x.K == 0 && x.N == 0 && plainIsRaise(&g)
	}
	if !done {
		return impl.Group{}, false
	}
	return g, true
}

func plainIsrPlay(replicas int, l []impl.IsrStep) (impl.Group, []bool, bool) {
	g, ok := plainNewIsr(replicas)
	if !ok || len(l) > 100 {
		return impl.Group{}, nil, false
	}
	var did []bool
	for _, x := range l {
		next, done := plainIsrStep(g, x)
		did = append(did, done)
		if done {
			g = next
		}
	}
	return g, did, true
}

func plainCommittedRows(g impl.Group) ([]impl.Row, bool) {
	if !plainIsrGood(g) {
		return nil, false
	}
	return g.Replicas[g.Leader].Log[:g.High], true
}

func plainLag(g impl.Group, replica int) (int, bool) {
	if !plainIsrGood(g) || replica < 0 || replica >= len(g.Replicas) {
		return 0, false
	}
	lead := g.Replicas[g.Leader].Log
	return len(lead) - plainShared(lead, g.Replicas[replica].Log), true
}

// plainSettle has all replicas as the leader is.
func plainSettle(g impl.Group) (impl.Group, int, bool) {
	if !plainIsrGood(g) {
		return impl.Group{}, 0, false
	}
	lead := g.Replicas[g.Leader].Log
	out := plainIsr(len(g.Replicas))
	out.Epoch, out.Leader, out.High = g.Epoch, g.Leader, len(lead)
	for k := range out.Replicas {
		out.Replicas[k] = impl.Replica{Log: slices.Clone(lead), Epoch: g.Epoch, Known: len(lead)}
	}
	return out, len(lead) - g.High, true
}

func isElect(k int) impl.IsrStep {
	return impl.IsrStep{Kind: impl.IsElect, K: k}
}

func isAppend(n int) impl.IsrStep {
	return impl.IsrStep{Kind: impl.IsAppend, N: n}
}

func isFetch(k, n int) impl.IsrStep {
	return impl.IsrStep{Kind: impl.IsFetch, K: k, N: n}
}

func isShrink(k int) impl.IsrStep {
	return impl.IsrStep{Kind: impl.IsShrink, K: k}
}

func isExpand(k int) impl.IsrStep {
	return impl.IsrStep{Kind: impl.IsExpand, K: k}
}

func isRaise() impl.IsrStep {
	return impl.IsrStep{Kind: impl.IsRaise}
}

// rows has one of each epoch, with the place as its Value.
func rows(epochs ...int) []impl.Row {
	var l []impl.Row
	for i, epoch := range epochs {
		l = append(l, impl.Row{Epoch: epoch, Value: i})
	}
	return l
}

// manyRows are so many of one epoch.
func manyRows(many, epoch int) []impl.Row {
	return slices.Repeat([]impl.Row{{Epoch: epoch, Value: 99}}, many)
}

// isrAfter is where steps lead; each must be done.
func isrAfter(g impl.Group, l ...impl.IsrStep) impl.Group {
	for _, x := range l {
		next, ok := plainIsrStep(g, x)
		if !ok {
			panic("no step")
		}
		g = next
	}
	return g
}

func sameReplica(a, b impl.Replica) bool {
	return slices.Equal(a.Log, b.Log) && a.Epoch == b.Epoch && a.Known == b.Known
}

func sameIsr(a, b impl.Group) bool {
	return a.Epoch == b.Epoch && a.Leader == b.Leader && slices.Equal(a.InStep, b.InStep) &&
		a.High == b.High && slices.EqualFunc(a.Replicas, b.Replicas, sameReplica)
}

// copyOfIsr shares no list with what it is given.
func copyOfIsr(g impl.Group) impl.Group {
	g.InStep = slices.Clone(g.InStep)
	g.Replicas = slices.Clone(g.Replicas)
	for k, r := range g.Replicas {
		g.Replicas[k].Log = slices.Clone(r.Log)
	}
	return g
}

// isrStepsOn are all steps, and those right beside them, that such a group has.
func isrStepsOn(g impl.Group) []impl.IsrStep {
	l := []impl.IsrStep{isRaise()}
	for _, n := range []int{-1, 0, 1, 50, 99, 100} {
		l = append(l, isAppend(n))
	}
	for k := -1; k <= max(4, len(g.Replicas)); k++ {
		l = append(l, isElect(k), isShrink(k), isExpand(k))
		for _, n := range []int{-1, 0, 1, 2, 3, 4, 29, 30, 31} {
			l = append(l, isFetch(k, n))
		}
	}
	return append(l, strayIsrSteps()...)
}

// strayIsrSteps have a number in a field for which they have no use, or are of no
// kind.
func strayIsrSteps() []impl.IsrStep {
	var l []impl.IsrStep
	for _, n := range []int{-1, 1, 2, 30} {
		for k := range 4 {
			for _, kind := range []int{impl.IsElect, impl.IsShrink, impl.IsExpand} {
				l = append(l, impl.IsrStep{Kind: kind, K: k, N: n})
			}
		}
		l = append(l, impl.IsrStep{Kind: impl.IsAppend, K: n, N: 5}, impl.IsrStep{Kind: impl.IsAppend, K: n},
			impl.IsrStep{Kind: impl.IsRaise, K: n}, impl.IsrStep{Kind: impl.IsRaise, N: n})
	}
	for _, kind := range []int{-1, 0, 7, 100} {
		for k := range 4 {
			l = append(l, impl.IsrStep{Kind: kind, K: k}, impl.IsrStep{Kind: kind, K: k, N: 1})
		}
	}
	return l
}

// randomIsrStep is one that mostly can be done.
func randomIsrStep(r *rand.Rand, now impl.Group) impl.IsrStep {
	k := r.IntN(len(now.Replicas))
	switch r.IntN(20) {
	case 0:
		return isElect(now.InStep[r.IntN(len(now.InStep))])
	case 1:
		return isElect(k)
	case 2, 3, 4, 5:
		return isAppend(r.IntN(100))
	case 6, 7, 8, 9:
		return isFetch(k, r.IntN(4))
	case 10, 11:
		return isFetch(k, 30)
	case 12:
		return isShrink(now.InStep[r.IntN(len(now.InStep))])
	case 13, 14, 15:
		return isExpand(k)
	case 16, 17, 18:
		return isRaise()
	}
	return impl.IsrStep{Kind: r.IntN(8), K: r.IntN(6) - 1, N: r.IntN(8) - 1}
}

// randomIsrSteps are such steps, each for where those ahead of it lead.
func randomIsrSteps(r *rand.Rand, replicas, many int) []impl.IsrStep {
	now := plainIsr(replicas)
	var l []impl.IsrStep
	for range many {
		x := randomIsrStep(r, now)
		l = append(l, x)
		if next, done := plainIsrStep(now, x); done {
			now = next
		}
	}
	return l
}

// randomIsr is one that steps lead to.
func randomIsr(r *rand.Rand) impl.Group {
	replicas := 2 + r.IntN(3)
	out, _, _ := plainIsrPlay(replicas, randomIsrSteps(r, replicas, r.IntN(90)))
	return out
}

func anyRows(r *rand.Rand, first []impl.Row, mostEpoch int) []impl.Row {
	l := slices.Clone(first[:r.IntN(len(first)+1)])
	for range r.IntN(4) {
		least := 0
		if len(l) > 0 {
			least = l[len(l)-1].Epoch
		}
		l = append(l, impl.Row{Epoch: least + r.IntN(mostEpoch-least+1), Value: r.IntN(2)})
	}
	return l
}

// anyIsr is good by chance alone: which epochs replicas are of, what they know, and
// who is in step has nothing to do with how it came.
func anyIsr(r *rand.Rand) impl.Group {
	g := impl.Group{Epoch: 1 + r.IntN(3), Replicas: make([]impl.Replica, 2+r.IntN(3))}
	g.Leader = r.IntN(len(g.Replicas))
	lead := anyRows(r, rows(0, 0, 1), g.Epoch)
	most := len(lead)
	for k := range g.Replicas {
		log := anyRows(r, lead, g.Epoch)
		if k == g.Leader {
			log = lead
		}
		one := impl.Replica{Log: log, Epoch: g.Epoch}
		shared := plainShared(lead, log)
		one.Known = r.IntN(shared + 1)
		if r.IntN(3) == 0 {
			one.Epoch, one.Known = r.IntN(g.Epoch), r.IntN(len(log)+1)
		}
		g.Replicas[k] = one
		if k == g.Leader || r.IntN(2) == 0 {
			g.InStep = append(g.InStep, k)
			most = min(most, shared)
		}
	}
	g.High = r.IntN(most + 1)
	return g
}

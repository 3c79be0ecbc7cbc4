package tests

import (
	"math/rand/v2"
	"slices"

	"loop.example/g00361/impl"
)

// What chapter 8 says, written once more in the plainest way: a step is made
// without looking whether there is room, and is done where the world is good then.

// plainNew is a world at its beginning, of however many processes.
func plainNew(procs, amount int) impl.Snap {
	s := impl.Snap{Total: procs * amount}
	for from := range procs {
		s.Amounts = append(s.Amounts, amount)
		s.Pictures = append(s.Pictures, impl.Picture{In: make([]int, procs), Closed: make([]bool, procs)})
		for to := range procs {
			if to != from {
				s.Chans = append(s.Chans, impl.Chan{From: from, To: to})
			}
		}
	}
	return s
}

func outside(l []int, least, most int) bool {
	return slices.ContainsFunc(l, func(n int) bool { return n < least || n > most })
}

func added(l []int) int {
	sum := 0
	for _, n := range l {
		sum += n
	}
	return sum
}

// plainSnapGood goes through what the chapter asks, one thing after the other.
func plainSnapGood(s impl.Snap) bool {
	procs := len(s.Amounts)
	if procs < 2 || procs > 4 || outside(s.Amounts, 0, 1000) || len(s.Pictures) != procs {
		return false
	}
	if len(s.Chans) != procs*(procs-1) || s.Sent < 0 || s.Sent > 1000 || s.Total > 1000 {
		return false
	}
	all := added(s.Amounts)
	for i, c := range s.Chans {
		from, to := i/(procs-1), i%(procs-1)
		if to >= from {
			to++
		}
		if c.From != from || c.To != to || len(c.Way) > 8 || outside(c.Way, 0, 1000) {
			return false
		}
		all += added(c.Way)
	}
	for own := range procs {
		if !plainPictureGood(s, own) {
			return false
		}
	}
	return all == s.Total && plainMarksFit(s)
}

func plainPictureGood(s impl.Snap, own int) bool {
	p, procs := s.Pictures[own], len(s.Amounts)
	if len(p.In) != procs || len(p.Closed) != procs {
		return false
	}
	for other := range procs {
		if !p.Taken && (p.In[other] != 0 || p.Closed[other]) {
			return false
		}
	}
	if !p.Taken {
		return p.Amount == 0
	}
	return p.Amount >= 0 && p.Amount <= 1000 && !outside(p.In, 0, 1000000) && p.In[own] == 0 && p.Closed[own]
}

func plainMarksFit(s impl.Snap) bool {
	for _, c := range s.Chans {
		marks := len(slices.DeleteFunc(slices.Clone(c.Way), func(n int) bool { return n != 0 }))
		closed := s.Pictures[c.To].Closed[c.From]
		switch {
		case !s.Pictures[c.From].Taken:
			if marks != 0 || closed {
				return false
			}
		case closed:
			if marks != 0 {
				return false
			}
		default:
			if marks != 1 {
				return false
			}
		}
	}
	return true
}

func plainStep(s impl.Snap, x impl.SnapStep) (impl.Snap, bool) {
	if !plainSnapGood(s) {
		return impl.Snap{}, false
	}
	out := copyOfSnap(s)
	if !plainMoved(&out, x) || !plainSnapGood(out) {
		return impl.Snap{}, false
	}
	return out, true
}

// plainMoved makes the step, whether there is room or not.
func plainMoved(s *impl.Snap, x impl.SnapStep) bool {
	if x.K < 0 || x.Kind != 1 && x.N != 0 {
		return false
	}
	switch {
	case x.Kind == 1 && x.K < len(s.Chans) && x.N >= 1:
		c := &s.Chans[x.K]
		s.Amounts[c.From] -= x.N
		c.Way = append(c.Way, x.N)
		s.Sent++
		return true
	case x.Kind == 3 && x.K < len(s.Pictures) && !s.Pictures[x.K].Taken:
		plainPictured(s, x.K)
		return true
	case x.Kind == 2 && x.K < len(s.Chans) && len(s.Chans[x.K].Way) > 0:
		plainTaken(s, x.K)
		return true
	}
	return false
}

func plainPictured(s *impl.Snap, own int) {
	p := &s.Pictures[own]
	p.Taken, p.Amount, p.Closed[own] = true, s.Amounts[own], true
	for i, c := range s.Chans {
		if c.From == own {
			s.Chans[i].Way = append(s.Chans[i].Way, 0)
		}
	}
}

func plainTaken(s *impl.Snap, k int) {
	c := &s.Chans[k]
	thing := c.Way[0]
	c.Way = c.Way[1:]
	p := &s.Pictures[c.To]
	s.Amounts[c.To] += thing
	if thing == 0 && !p.Taken {
		plainPictured(s, c.To)
	}
	if thing == 0 {
		p.Closed[c.From] = true
	} else if p.Taken && !p.Closed[c.From] {
		p.In[c.From] += thing
	}
}

func plainPlay(procs, amount int, l []impl.SnapStep) (impl.Snap, []bool, bool) {
	if procs < 2 || procs > 4 || amount < 0 || amount > 250 || len(l) > 80 {
		return impl.Snap{}, nil, false
	}
	s := plainNew(procs, amount)
	var did []bool
	for _, x := range l {
		next, ok := plainStep(s, x)
		if ok {
			s = next
		}
		did = append(did, ok)
	}
	return s, did, true
}

func plainOnWay(s impl.Snap) (int, bool) {
	if !plainSnapGood(s) {
		return 0, false
	}
	return s.Total - added(s.Amounts), true
}

func plainPictureOf(s impl.Snap) (int, bool) {
	if !plainSnapGood(s) {
		return 0, false
	}
	sum := 0
	for _, p := range s.Pictures {
		sum += p.Amount
		if !p.Taken {
			return 0, false
		}
	}
	for _, c := range s.Chans {
		sum += s.Pictures[c.To].In[c.From]
		if !s.Pictures[c.To].Closed[c.From] {
			return 0, false
		}
	}
	return sum, true
}

func plainFinish(s impl.Snap) (impl.Snap, int, bool) {
	if !plainSnapGood(s) {
		return impl.Snap{}, 0, false
	}
	ok := true
	if !slices.ContainsFunc(s.Pictures, func(p impl.Picture) bool { return p.Taken }) {
		s, ok = plainStep(s, snBegin(0))
	}
	for many := 0; ok; many++ {
		waiting := slices.IndexFunc(s.Chans, func(c impl.Chan) bool { return len(c.Way) > 0 })
		if waiting < 0 {
			return copyOfSnap(s), many, true
		}
		s, ok = plainStep(s, snTake(waiting))
	}
	return impl.Snap{}, 0, false
}

func snSend(k, n int) impl.SnapStep {
	return impl.SnapStep{Kind: impl.SnSend, K: k, N: n}
}

func snTake(k int) impl.SnapStep {
	return impl.SnapStep{Kind: impl.SnTake, K: k}
}

func snBegin(k int) impl.SnapStep {
	return impl.SnapStep{Kind: impl.SnBegin, K: k}
}

// worldAfter is where steps lead from a world; each must be done.
func worldAfter(s impl.Snap, l ...impl.SnapStep) impl.Snap {
	for _, x := range l {
		next, ok := plainStep(s, x)
		if !ok {
			panic("no step")
		}
		s = next
	}
	return s
}

// worldOf is where they lead from a new one.
func worldOf(procs, amount int, l ...impl.SnapStep) impl.Snap {
	return worldAfter(plainNew(procs, amount), l...)
}

func sameChans(a, b []impl.Chan) bool {
	return slices.EqualFunc(a, b, func(x, y impl.Chan) bool {
		return x.From == y.From && x.To == y.To && slices.Equal(x.Way, y.Way)
	})
}

func samePictures(a, b []impl.Picture) bool {
	return slices.EqualFunc(a, b, func(x, y impl.Picture) bool {
		return x.Taken == y.Taken && x.Amount == y.Amount && slices.Equal(x.In, y.In) && slices.Equal(x.Closed, y.Closed)
	})
}

func sameSnap(a, b impl.Snap) bool {
	return slices.Equal(a.Amounts, b.Amounts) && sameChans(a.Chans, b.Chans) && samePictures(a.Pictures, b.Pictures) &&
		a.Sent == b.Sent && a.Total == b.Total
}

// copyOfSnap shares no list with what it is given.
func copyOfSnap(s impl.Snap) impl.Snap {
	out := impl.Snap{Amounts: slices.Clone(s.Amounts), Sent: s.Sent, Total: s.Total}
	for _, c := range s.Chans {
		c.Way = slices.Clone(c.Way)
		out.Chans = append(out.Chans, c)
	}
	for _, p := range s.Pictures {
		p.In, p.Closed = slices.Clone(p.In), slices.Clone(p.Closed)
		out.Pictures = append(out.Pictures, p)
	}
	return out
}

// stepsOn are all steps, and those right beside them, that such a world has.
func stepsOn(s impl.Snap) []impl.SnapStep {
	var l []impl.SnapStep
	for k := -1; k <= len(s.Chans); k++ {
		amounts := []int{-1, 0, 1, 2, 1000, 1001}
		if k >= 0 && k < len(s.Chans) {
			if from := s.Chans[k].From; from >= 0 && from < len(s.Amounts) {
				amounts = append(amounts, s.Amounts[from], s.Amounts[from]+1)
			}
		}
		for _, n := range amounts {
			l = append(l, snSend(k, n))
		}
		for _, n := range []int{-1, 0, 1} {
			for _, kind := range []int{-1, 0, 2, 3, 4} {
				l = append(l, impl.SnapStep{Kind: kind, K: k, N: n})
			}
		}
	}
	return l
}

// randomStep is one that a world of so many processes may have; most of them take
// or send, so that much is on the way.
func randomStep(r *rand.Rand, procs int) impl.SnapStep {
	k := r.IntN(procs * (procs - 1))
	switch r.IntN(20) {
	case 0:
		return snBegin(r.IntN(procs))
	case 1:
		return impl.SnapStep{Kind: r.IntN(5), K: r.IntN(procs*procs) - 1, N: r.IntN(3) - 1}
	case 2, 3, 4, 5, 6, 7, 8, 9, 10:
		return snTake(k)
	}
	return snSend(k, 1+r.IntN(4))
}

func randomSteps(r *rand.Rand, procs, many int) []impl.SnapStep {
	var l []impl.SnapStep
	for range many {
		l = append(l, randomStep(r, procs))
	}
	return l
}

// randomWorld is one that steps lead to.
func randomWorld(r *rand.Rand) impl.Snap {
	procs := 2 + r.IntN(3)
	s, _, _ := plainPlay(procs, r.IntN(20), randomSteps(r, procs, r.IntN(60)))
	return s
}

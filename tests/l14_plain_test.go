package tests

import (
	"math/rand/v2"
	"slices"

	"loop.example/g00361/impl"
)

// What chapter 14 says, written once more in the plainest way: part by part, and each
// limit as a number.

// plainReaders has so many readers at its beginning, however many, and any Ends.
func plainReaders(readers int, ends ...int) impl.Readers {
	r := impl.Readers{Committed: make([]int, len(ends)), Ends: slices.Clone(ends)}
	for range readers {
		r.Readers = append(r.Readers, impl.Reader{Read: make([]int, len(ends))})
	}
	return r
}

func plainEndsGood(ends []int) bool {
	if len(ends) < 1 || len(ends) > 6 {
		return false
	}
	for _, end := range ends {
		if end < 0 || end > 100 {
			return false
		}
	}
	return true
}

func plainNewReaders(readers int, ends []int) (impl.Readers, bool) {
	if readers < 1 || readers > 5 || !plainEndsGood(ends) {
		return impl.Readers{}, false
	}
	return plainReaders(readers, ends...), true
}

// plainDealt goes by the remainder of each part's number.
func plainDealt(r impl.Readers, k int) []int {
	var in []int
	for i, m := range r.Readers {
		if m.In {
			in = append(in, i)
		}
	}
	var l []int
	for part := range r.Ends {
		if in[part%len(in)] == k {
			l = append(l, part)
		}
	}
	return l
}

func plainFarGood(far, ends []int) bool {
	if len(far) != len(ends) {
		return false
	}
	for part := range far {
		if far[part] < 0 || far[part] > ends[part] {
			return false
		}
	}
	return true
}

func plainReaderGood(r impl.Readers, k int) bool {
	m := r.Readers[k]
	if !m.In {
		return m.Generation == 0 && len(m.Share) == 0 && slices.Equal(m.Read, make([]int, len(r.Ends)))
	}
	if m.Generation < 0 || m.Generation > r.Generation || !plainRising(m.Share, len(r.Ends)) || !plainFarGood(m.Read, r.Ends) {
		return false
	}
	for part, n := range m.Read {
		if n > 0 && !slices.Contains(m.Share, part) {
			return false
		}
	}
	return m.Generation < r.Generation || slices.Equal(m.Share, plainDealt(r, k))
}

func plainReadersGood(r impl.Readers) bool {
	if len(r.Readers) < 1 || len(r.Readers) > 5 || !plainEndsGood(r.Ends) || !plainFarGood(r.Committed, r.Ends) {
		return false
	}
	if r.Generation < 0 || r.Generation > 1000 {
		return false
	}
	for k := range r.Readers {
		if !plainReaderGood(r, k) {
			return false
		}
	}
	return true
}

func plainGsJoin(r *impl.Readers, k int) bool {
	if r.Readers[k].In || r.Generation > 999 {
		return false
	}
	r.Generation++
	r.Readers[k].In = true
	return true
}

func plainGsLeave(r *impl.Readers, k int) bool {
	if !r.Readers[k].In || r.Generation > 999 {
		return false
	}
	r.Generation++
	r.Readers[k] = impl.Reader{Read: make([]int, len(r.Ends))}
	return true
}

func plainGsSync(r *impl.Readers, k int) bool {
	m := &r.Readers[k]
	if !m.In || m.Generation == r.Generation {
		return false
	}
	m.Generation = r.Generation
	m.Share = plainDealt(*r, k)
	for part := range r.Ends {
		m.Read[part] = 0
		if slices.Contains(m.Share, part) {
			m.Read[part] = r.Committed[part]
		}
	}
	return true
}

func plainGsRead(r *impl.Readers, k, part, n int) bool {
	m := &r.Readers[k]
	if !m.In || n < 1 || !slices.Contains(m.Share, part) {
		return false
	}
	for ; n > 0 && m.Read[part] < r.Ends[part]; n-- {
		m.Read[part]++
	}
	return true
}

func plainGsCommit(r *impl.Readers, k, part int) bool {
	m := r.Readers[k]
	if !m.In || m.Generation != r.Generation || !slices.Contains(m.Share, part) {
		return false
	}
	if m.Read[part] <= r.Committed[part] {
		return false
	}
	r.Committed[part] = m.Read[part]
	return true
}

func plainReadersStep(r impl.Readers, x impl.GroupStep) (impl.Readers, bool) {
	if !plainReadersGood(r) || x.K < 0 || x.K >= len(r.Readers) {
		return impl.Readers{}, false
	}
	r = copyOfReaders(r)
	done := false
	switch x.Kind {
	case 1:
		done = x.Part == 0 && x.N == 0 && plainGsJoin(&r, x.K)
	case 2:
		done = x.Part == 0 && x.N == 0 && plainGsLeave(&r, x.K)
	case 3:
		done = x.Part == 0 && x.N == 0 && plainGsSync(&r, x.K)
	case 4:
		done = plainGsRead(&r, x.K, x.Part, x.N)
	case 5:
		done = x.N == 0 && plainGsCommit(&r, x.K, x.Part)
	}
	if !done {
		return impl.Readers{}, false
	}
	return r, true
}

func plainReadersPlay(readers int, ends []int, l []impl.GroupStep) (impl.Readers, []bool, bool) {
	r, ok := plainNewReaders(readers, ends)
	if !ok || len(l) > 80 {
		return impl.Readers{}, nil, false
	}
	var did []bool
	for _, x := range l {
		next, done := plainReadersStep(r, x)
		if done {
			r = next
		}
		did = append(did, done)
	}
	return r, did, true
}

func plainShare(r impl.Readers, k int) ([]int, bool) {
	if !plainReadersGood(r) || k < 0 || k >= len(r.Readers) || !r.Readers[k].In {
		return nil, false
	}
	return plainDealt(r, k), true
}

func plainOwner(r impl.Readers, part int) (int, bool) {
	if !plainReadersGood(r) {
		return 0, false
	}
	for k, m := range r.Readers {
		if m.In && m.Generation == r.Generation && slices.Contains(m.Share, part) {
			return k, true
		}
	}
	return 0, false
}

func plainLeft(r impl.Readers) (int, bool) {
	if !plainReadersGood(r) {
		return 0, false
	}
	left := 0
	for part, end := range r.Ends {
		left += end - r.Committed[part]
	}
	return left, true
}

func gsJoin(k int) impl.GroupStep {
	return impl.GroupStep{Kind: impl.GsJoin, K: k}
}

func gsLeave(k int) impl.GroupStep {
	return impl.GroupStep{Kind: impl.GsLeave, K: k}
}

func gsSync(k int) impl.GroupStep {
	return impl.GroupStep{Kind: impl.GsSync, K: k}
}

func gsRead(k, part, n int) impl.GroupStep {
	return impl.GroupStep{Kind: impl.GsRead, K: k, Part: part, N: n}
}

func gsCommit(k, part int) impl.GroupStep {
	return impl.GroupStep{Kind: impl.GsCommit, K: k, Part: part}
}

// readersAfter is where steps lead; each must be done.
func readersAfter(r impl.Readers, l ...impl.GroupStep) impl.Readers {
	for _, x := range l {
		next, ok := plainReadersStep(r, x)
		if !ok {
			panic("no step")
		}
		r = next
	}
	return r
}

func sameReader(a, b impl.Reader) bool {
	return a.In == b.In && a.Generation == b.Generation && slices.Equal(a.Share, b.Share) && slices.Equal(a.Read, b.Read)
}

func sameReaders(a, b impl.Readers) bool {
	return a.Generation == b.Generation && slices.EqualFunc(a.Readers, b.Readers, sameReader) &&
		slices.Equal(a.Committed, b.Committed) && slices.Equal(a.Ends, b.Ends)
}

// copyOfReaders shares no list with what it is given.
func copyOfReaders(r impl.Readers) impl.Readers {
	r.Committed, r.Ends = slices.Clone(r.Committed), slices.Clone(r.Ends)
	r.Readers = slices.Clone(r.Readers)
	for k, m := range r.Readers {
		r.Readers[k].Share, r.Readers[k].Read = slices.Clone(m.Share), slices.Clone(m.Read)
	}
	return r
}

// readersStepsOn are all steps, and those right beside them, that such a group has.
func readersStepsOn(r impl.Readers) []impl.GroupStep {
	var l []impl.GroupStep
	parts := min(6, len(r.Ends))
	for k := -1; k <= min(5, len(r.Readers)); k++ {
		l = append(l, gsJoin(k), gsLeave(k), gsSync(k))
		for part := -1; part <= parts; part++ {
			l = append(l, gsCommit(k, part))
			for _, n := range []int{-1, 0, 1, 2, 100, 101, 1<<63 - 1} {
				l = append(l, gsRead(k, part, n))
			}
		}
		l = append(l, strayReadersSteps(k)...)
	}
	return l
}

// strayReadersSteps have a number in a field for which they have no use, or are of no
// kind.
func strayReadersSteps(k int) []impl.GroupStep {
	var l []impl.GroupStep
	for _, n := range []int{-1, 1, 2} {
		for _, kind := range []int{impl.GsJoin, impl.GsLeave, impl.GsSync} {
			l = append(l, impl.GroupStep{Kind: kind, K: k, Part: n}, impl.GroupStep{Kind: kind, K: k, N: n},
				impl.GroupStep{Kind: kind, K: k, Part: n, N: n})
		}
		l = append(l, impl.GroupStep{Kind: impl.GsCommit, K: k, N: n}, impl.GroupStep{Kind: impl.GsCommit, K: k, Part: 1, N: n})
	}
	for _, kind := range []int{-1, 0, 6, 100} {
		l = append(l, impl.GroupStep{Kind: kind, K: k}, impl.GroupStep{Kind: kind, K: k, Part: 1}, impl.GroupStep{Kind: kind, K: k, N: 1},
			impl.GroupStep{Kind: kind, K: k, Part: 1, N: 1})
	}
	return l
}

// ownPart is one of a reader's Share, if it has any.
func ownPart(r *rand.Rand, m impl.Reader) int {
	if len(m.Share) == 0 {
		return 0
	}
	return m.Share[r.IntN(len(m.Share))]
}

// randomReadersStep is one that mostly can be done.
func randomReadersStep(r *rand.Rand, now impl.Readers) impl.GroupStep {
	k := r.IntN(len(now.Readers))
	m := now.Readers[k]
	switch r.IntN(16) {
	case 0, 1:
		if m.In && r.IntN(3) > 0 {
			return gsSync(k)
		}
		return gsJoin(k)
	case 2:
		return gsLeave(k)
	case 3, 4, 5, 6:
		return gsSync(k)
	case 7, 8, 9:
		return gsRead(k, ownPart(r, m), 1+r.IntN(4))
	case 10:
		return gsRead(k, ownPart(r, m), 100)
	case 11, 12, 13, 14:
		return gsCommit(k, ownPart(r, m))
	}
	return impl.GroupStep{Kind: r.IntN(7), K: r.IntN(7) - 1, Part: r.IntN(8) - 1, N: r.IntN(4) - 1}
}

// randomEnds are of one to six parts.
func randomEnds(r *rand.Rand) []int {
	var ends []int
	for range 1 + r.IntN(6) {
		ends = append(ends, []int{0, 1, 3, 9, 50, 100}[r.IntN(6)])
	}
	return ends
}

// randomReadersSteps are such steps, each for where those ahead of it lead.
func randomReadersSteps(r *rand.Rand, readers int, ends []int, many int) []impl.GroupStep {
	now := plainReaders(readers, ends...)
	var l []impl.GroupStep
	for range many {
		x := randomReadersStep(r, now)
		l = append(l, x)
		if next, done := plainReadersStep(now, x); done {
			now = next
		}
	}
	return l
}

// randomReaders is a group that steps lead to.
func randomReaders(r *rand.Rand) impl.Readers {
	readers, ends := 1+r.IntN(5), randomEnds(r)
	out, _, _ := plainReadersPlay(readers, ends, randomReadersSteps(r, readers, ends, r.IntN(81)))
	return out
}

// anyReaders is good by chance alone: who is In, what each knows, shares and has read
// has nothing to do with how it came.
func anyReaders(r *rand.Rand) impl.Readers {
	g := plainReaders(1+r.IntN(5), randomEnds(r)...)
	g.Generation = []int{0, 1, 2, 7, 999, 1000}[r.IntN(6)]
	for part, end := range g.Ends {
		g.Committed[part] = r.IntN(end + 1)
	}
	for k := range g.Readers {
		g.Readers[k].In = r.IntN(4) > 0
	}
	for k := range g.Readers {
		m := &g.Readers[k]
		if !m.In {
			continue
		}
		m.Generation, m.Share = g.Generation, plainDealt(g, k)
		if g.Generation > 0 && r.IntN(2) == 0 {
			m.Generation = r.IntN(g.Generation)
			m.Share = listOf(r.IntN(1 << len(g.Ends)))
		}
		for _, part := range m.Share {
			m.Read[part] = r.IntN(g.Ends[part] + 1)
		}
	}
	return g
}

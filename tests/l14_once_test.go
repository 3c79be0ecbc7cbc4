package tests

import (
	"slices"
	"testing"

	"loop.example/g00361/impl"
)

// Promise 14: no two read one part in the newest generation, and what is committed
// does not fall.

// wantOneOwner asks that no part is in two Shares of the newest Generation, and that
// who has it is told.
func wantOneOwner(t *testing.T, r impl.Readers) {
	t.Helper()
	if !impl.GoodReaders(r) {
		t.Error("not good", r)
	}
	for part := range r.Ends {
		var owners []int
		for k, m := range r.Readers {
			if m.In && m.Generation == r.Generation && slices.Contains(m.Share, part) {
				owners = append(owners, k)
			}
		}
		if len(owners) > 1 {
			t.Error("two read one part", part, owners, r)
		}
		k, ok := impl.OwnerOf(r, part)
		if ok != (len(owners) == 1) || ok && k != owners[0] {
			t.Error("another owner is told", part, k, ok, r)
		}
	}
}

// wantReadOn asks of a step that was done that nothing Committed fell, that only the
// owner of a part committed it, and what it has read, and that the Generation is
// another one where others are In.
func wantReadOn(t *testing.T, before, after impl.Readers, x impl.GroupStep) {
	t.Helper()
	if !slices.Equal(before.Ends, after.Ends) || len(after.Readers) != len(before.Readers) || len(after.Committed) != len(before.Committed) {
		t.Error("another group", before, x, after)
		return
	}
	for part, n := range before.Committed {
		now := after.Committed[part]
		if now < n || now > after.Ends[part] {
			t.Error("what is committed fell, or is too much", part, before, x, after)
		}
		owner, ok := impl.OwnerOf(before, part)
		if now > n && (x.Kind != impl.GsCommit || x.Part != part || !ok || owner != x.K || before.Readers[x.K].Read[part] != now) {
			t.Error("more is committed by a wrong one", part, before, x, after)
		}
	}
	sameIn := true
	for k, m := range before.Readers {
		sameIn = sameIn && m.In == after.Readers[k].In
		if k != x.K && !sameReader(m, after.Readers[k]) {
			t.Error("another reader is changed", k, before, x, after)
		}
	}
	generation := before.Generation
	if !sameIn {
		generation++
	}
	if after.Generation != generation {
		t.Error("another Generation", before, x, after)
	}
}

// readersKey is another one for each group.
func readersKey(r impl.Readers) string {
	var key []byte
	put := func(numbers ...int) {
		for _, n := range numbers {
			key = append(key, byte(n))
		}
	}
	put(r.Generation)
	put(r.Committed...)
	for _, m := range r.Readers {
		in := 0
		if m.In {
			in = 1
		}
		put(in, m.Generation, len(m.Share))
		put(m.Share...)
		put(m.Read...)
	}
	return string(key)
}

type readersLimits struct {
	readers, generation int
	ends                []int
}

// fewReadersSteps are the steps that lead on within such limits.
func fewReadersSteps(r impl.Readers, few readersLimits) []impl.GroupStep {
	var l []impl.GroupStep
	for k := range r.Readers {
		l = append(l, gsSync(k))
		if r.Generation < few.generation {
			l = append(l, gsJoin(k), gsLeave(k))
		}
		for part := range r.Ends {
			l = append(l, gsRead(k, part, 1), gsCommit(k, part))
		}
	}
	return l
}

// All groups that few readers come to in few generations, of few parts.
func TestAllFewReaders(t *testing.T) {
	for _, few := range []readersLimits{{1, 4, []int{2, 1, 1}}, {2, 3, []int{2, 1}}, {2, 4, []int{1, 1}}, {3, 3, []int{1, 1}}, {3, 4, []int{1}}} {
		first, _ := impl.NewReaders(few.readers, few.ends)
		seen := map[string]bool{readersKey(first): true}
		all := []impl.Readers{first}
		fewest := 100
		for at := 0; at < len(all) && !t.Failed(); at++ {
			r := all[at]
			wantOneOwner(t, r)
			left, _ := impl.LeftToRead(r)
			fewest = min(fewest, left)
			for _, x := range fewReadersSteps(r, few) {
				got, ok := wantReadersStep(t, "few", r, x)
				if !ok {
					continue
				}
				wantReadOn(t, r, got, x)
				if key := readersKey(got); !seen[key] {
					seen[key] = true
					all = append(all, got)
				}
			}
		}
		if fewest != 0 || len(all) < 100 {
			t.Error("too few come to be", few, fewest, len(all))
		}
	}
}

func TestPlaysReadEachPartOnce(t *testing.T) {
	r := newRandom()
	committed, led := 0, 0
	for range 2000 {
		readers, ends := 1+r.IntN(5), randomEnds(r)
		l := randomReadersSteps(r, readers, ends, r.IntN(81))
		wantReadersPlay(t, "random", readers, ends, l)
		got, _, ok := impl.PlayReaders(readers, ends, l)
		if !ok {
			t.Fatal(readers, ends, l)
		}
		wantReaders(t, "random", got)
		wantOneOwner(t, got)
		half, _, _ := impl.PlayReaders(readers, ends, l[:len(l)/2])
		for part, n := range half.Committed {
			if got.Committed[part] < n {
				t.Error("what is committed fell", part, readers, ends, l)
			}
			committed += got.Committed[part]
		}
		led += got.Generation
	}
	if committed < 2000 || led < 2000 {
		t.Error("too little is committed, or too few came", committed, led)
	}
}

// Step by step, so that readers come and go up to the last Generation, and read on
// when theirs is over.
func TestLongRunsReadEachPartOnce(t *testing.T) {
	r := newRandom()
	last, late, all := 0, 0, 0
	for range 40 {
		now, _ := impl.NewReaders(1+r.IntN(5), randomEnds(r))
		for range 15000 {
			x := randomReadersStep(r, now)
			next, ok := impl.StepReaders(now, x)
			if !ok {
				continue
			}
			wantReadOn(t, now, next, x)
			wantOneOwner(t, next)
			if x.Kind == impl.GsRead && now.Readers[x.K].Generation < now.Generation {
				late++
			}
			now = next
		}
		if now.Generation == 1000 {
			last++
		}
		if left, ok := impl.LeftToRead(now); ok && left == 0 {
			all++
		}
	}
	if last == 0 || late < 200 || all == 0 {
		t.Error("not all came to be", last, late, all)
	}
}

// A group that no play made holds it, too.
func TestAnyGoodReadersReadEachPartOnce(t *testing.T) {
	r := newRandom()
	for range 1500 {
		g := anyReaders(r)
		wantOneOwner(t, g)
		for _, x := range readersStepsOn(g) {
			if got, ok := impl.StepReaders(g, x); ok {
				wantReadOn(t, g, got, x)
				wantOneOwner(t, got)
			}
		}
	}
}

// Where all who are In have synced each part has an owner, whoever they are.
func TestAllPartsAreOwnedWhereAllKnowTheGeneration(t *testing.T) {
	r := newRandom()
	for range 1000 {
		g := randomReaders(r)
		some := false
		for k, m := range g.Readers {
			some = some || m.In
			if next, ok := impl.StepReaders(g, gsSync(k)); ok {
				g = next
			}
		}
		wantOneOwner(t, g)
		for part := range g.Ends {
			if k, ok := impl.OwnerOf(g, part); ok != some {
				t.Error("owned or not", part, k, ok, g)
			}
		}
	}
}

// 0 has read more of the part 1 than it has committed when 1 comes, to whom it goes.
func leftBehind() impl.Readers {
	return readersAfter(plainReaders(2, 5, 9), gsJoin(0), gsSync(0), gsRead(0, 1, 2), gsCommit(0, 1), gsRead(0, 1, 4), gsJoin(1), gsSync(1))
}

// Were the commit of one who was left behind taken, then what the owner reads would
// be jumped over, or what it committed would fall.
func TestOneLeftBehindCommitsNothing(t *testing.T) {
	r := leftBehind()
	wantNoReadersStep(t, "its Generation is over, and the part is another one's", r, gsCommit(0, 1))
	wantNoReadersStep(t, "nor a part that will be its own", readersAfter(r, gsRead(0, 0, 3)), gsCommit(0, 0))
	if k, ok := impl.OwnerOf(r, 1); !ok || k != 1 || r.Readers[1].Read[1] != 2 {
		t.Error("the owner begins at what is committed", k, ok, r)
	}
	r = readersAfter(r, gsRead(1, 1, 6), gsCommit(1, 1))
	wantNoReadersStep(t, "nor what is less by now", r, gsCommit(0, 1))
	r = readersAfter(r, gsSync(0))
	wantNoReadersStep(t, "nor one of the Generation, of what is not its own", r, gsCommit(0, 1))
	if r.Committed[1] != 8 || !slices.Equal(r.Readers[0].Read, []int{0, 0}) {
		t.Error(r)
	}
}

// An owner that leaves and comes again begins at what is committed, and neither of
// both Generations in between is its own.
func TestOneThatComesAgainBeginsAtWhatIsCommitted(t *testing.T) {
	r := readersAfter(leftBehind(), gsRead(1, 1, 3), gsCommit(1, 1), gsRead(1, 1, 2), gsLeave(1), gsJoin(1))
	wantNoReadersStep(t, "it has no Share", r, gsCommit(1, 1))
	if k, ok := impl.OwnerOf(r, 1); ok {
		t.Error("nobody has it yet", k)
	}
	r = readersAfter(r, gsSync(1))
	if r.Readers[1].Read[1] != 5 || r.Committed[1] != 5 {
		t.Error("it begins where it committed", r)
	}
	wantNoReadersStep(t, "nothing is read yet", r, gsCommit(1, 1))
	wantReadersChanged(t, "it goes on", readersAfter(r, gsRead(1, 1, 1)), gsCommit(1, 1), func(r *impl.Readers) { r.Committed[1] = 6 })
}

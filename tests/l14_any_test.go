package tests

import (
	"math/rand/v2"
	"slices"
	"testing"

	"loop.example/g00361/impl"
)

// Promise 19 for chapter 14: answers at any arguments, nothing written into an
// argument, no memory shared.

// numbersOfReaders are the places of all numbers of a group.
func numbersOfReaders(r *impl.Readers) []*int {
	l := []*int{&r.Generation}
	for part := range r.Committed {
		l = append(l, &r.Committed[part])
	}
	for part := range r.Ends {
		l = append(l, &r.Ends[part])
	}
	for k := range r.Readers {
		m := &r.Readers[k]
		l = append(l, &m.Generation)
		for i := range m.Share {
			l = append(l, &m.Share[i])
		}
		for i := range m.Read {
			l = append(l, &m.Read[i])
		}
	}
	return l
}

func oddReaders() []impl.Readers {
	many := make([]int, 1<<16)
	l := []impl.Readers{
		{},
		{Readers: []impl.Reader{}, Committed: []int{}, Ends: []int{}},
		{Readers: make([]impl.Reader, 2), Committed: []int{0}, Ends: []int{0}},
		{Readers: slices.Repeat([]impl.Reader{{In: true}}, 5), Ends: []int{1 << 62, 1 << 62}, Committed: []int{-1 << 62, -1 << 62}},
		changedReaders(func(r *impl.Readers) { r.Readers = make([]impl.Reader, 1<<16) }),
		changedReaders(func(r *impl.Readers) { r.Readers = slices.Repeat(r.Readers, 1<<12) }),
		changedReaders(func(r *impl.Readers) { r.Committed, r.Ends = many, many }),
	}
	for _, some := range [][]int{nil, many, make([]int, 5), make([]int, 7), steps(1<<16, 0, 1)} {
		l = append(l,
			changedReaders(func(r *impl.Readers) { r.Committed = some }),
			changedReaders(func(r *impl.Readers) { r.Ends = some }),
			changedReaders(func(r *impl.Readers) { r.Ends, r.Committed = some, some }))
		for k := range 5 {
			l = append(l,
				changedReaders(func(r *impl.Readers) { r.Readers[k].Share = some }),
				changedReaders(func(r *impl.Readers) { r.Readers[k].Read = some }),
				changedReaders(func(r *impl.Readers) { r.Readers[k].Read, r.Readers[k].Share = some, some }))
		}
	}
	for k := range 5 {
		l = append(l,
			changedReaders(func(r *impl.Readers) { r.Readers[k] = impl.Reader{} }),
			changedReaders(func(r *impl.Readers) { r.Readers[k].In = !r.Readers[k].In }))
	}
	first := reading()
	for _, n := range append(oddNumbers(), -2, 2, 3, 4, 5, 6, 7, 63, 64, 65, 99, 100, 101, 999, 1000) {
		for i := range numbersOfReaders(&first) {
			r := reading()
			*numbersOfReaders(&r)[i] = n
			l = append(l, r)
		}
		all := reading()
		for _, p := range numbersOfReaders(&all) {
			*p = n
		}
		l = append(l, all)
	}
	return l
}

func TestAnyReadersAreAnswered(t *testing.T) {
	for _, r := range oddReaders() {
		wantReadersSteps(t, "odd", r)
		for _, x := range []impl.GroupStep{gsJoin(1), gsLeave(0), gsSync(4), gsRead(4, 0, 1), gsRead(0, 0, 1<<62), gsCommit(0, 0)} {
			wantReadersStep(t, "odd", r, x)
		}
	}
}

func TestAnyReadersStepIsAnswered(t *testing.T) {
	numbers := append(oddNumbers(), 2, 3, 4, 5, 6, 7, 63, 64)
	var all []impl.GroupStep
	for kind := -1; kind <= 6; kind++ {
		for _, a := range numbers {
			for _, b := range numbers {
				all = append(all, impl.GroupStep{Kind: kind, K: a, Part: b}, impl.GroupStep{Kind: kind, K: a, N: b}, impl.GroupStep{Kind: kind, Part: a, N: b},
					impl.GroupStep{Kind: kind, K: 4, Part: a, N: b})
			}
		}
	}
	for _, n := range numbers {
		all = append(all, impl.GroupStep{Kind: n}, impl.GroupStep{Kind: n, K: n, Part: n, N: n})
	}
	for _, r := range []impl.Readers{{}, reading(), plainReaders(1, 0), plainReaders(5, 9, 9), allSynced(5, 1, 2, 3, 4, 5, 6), badReaders()["a Committed of -1"]} {
		for _, x := range all {
			wantReadersStep(t, "odd", r, x)
		}
	}
	for i, x := range all {
		wantReadersPlay(t, "odd", 2, []int{5, 3}, []impl.GroupStep{x, gsJoin(1), x, gsSync(1), x, gsRead(1, 0, 2), all[len(all)-1-i], gsCommit(1, 0), x, gsJoin(0), x})
	}
	wantReadersPlay(t, "many", 3, []int{5, 3}, make([]impl.GroupStep, 1<<16))
	wantReadersPlay(t, "many good ones", 1, []int{100}, slices.Repeat([]impl.GroupStep{gsJoin(0), gsLeave(0)}, 1<<15))
}

func TestAnyNumbersOfReadersAreAnswered(t *testing.T) {
	lists := append(oddLists(), []int{100}, []int{101}, make([]int, 5), make([]int, 6), make([]int, 7), slices.Repeat([]int{100}, 6))
	for _, n := range append(oddNumbers(), 2, 3, 4, 5, 6, 7) {
		for _, ends := range lists {
			want, wanted := plainNewReaders(n, ends)
			if r, ok := impl.NewReaders(n, ends); ok != wanted || !sameReaders(r, want) {
				t.Error(n, ends, r, ok)
			}
			wantReadersPlay(t, "odd", n, ends, []impl.GroupStep{gsJoin(0), gsSync(0), gsRead(0, 0, 1), gsCommit(0, 0), gsJoin(4)})
		}
		for why, r := range someReaders() {
			wantShare(t, why, r, n)
			wantOwner(t, why, r, n)
		}
	}
}

// shiftedReaders changes one number or list of a group a little.
func shiftedReaders(r *rand.Rand, first impl.Readers) impl.Readers {
	g := copyOfReaders(first)
	one := &g.Readers[r.IntN(len(g.Readers))]
	switch r.IntN(10) {
	case 0:
		one.In = !one.In
	case 1:
		one.Share = listOf(r.IntN(1 << len(g.Ends)))
	case 2:
		one.Share = append(one.Share, r.IntN(len(g.Ends)+1))
	case 3:
		one.Generation = g.Generation
	case 4:
		one.Read[r.IntN(len(one.Read))] = r.IntN(3)
	case 5:
		g.Committed[r.IntN(len(g.Ends))]++
	case 6:
		*one = copyOfReaders(g).Readers[r.IntN(len(g.Readers))]
	default:
		numbers := numbersOfReaders(&g)
		*numbers[r.IntN(len(numbers))] += 1 - 2*r.IntN(2)
	}
	return g
}

func TestReadersNearToGoodOnesAreAnswered(t *testing.T) {
	r := newRandom()
	good := 0
	for i := range 3000 {
		first := randomReaders(r)
		if i%2 == 0 {
			first = anyReaders(r)
		}
		near := shiftedReaders(r, first)
		if plainReadersGood(near) {
			good++
		}
		wantReadersSteps(t, "near", near)
	}
	if good < 600 || good > 2400 {
		t.Error("one kind of groups alone", good)
	}
}

// roomyReaders is the same group, all its lists with room behind their length, in
// which stands what would be taken for more of them.
func roomyReaders(first impl.Readers) impl.Readers {
	r := first
	r.Readers = nil
	for _, m := range first.Readers {
		m.Share, _ = roomyList(m.Share, len(first.Ends)-1, -7)
		m.Read, _ = roomyList(m.Read, 0, -7)
		r.Readers = append(r.Readers, m)
	}
	r.Readers, _ = roomyList(r.Readers, impl.Reader{In: true, Read: make([]int, len(first.Ends))}, impl.Reader{Generation: -7})
	r.Committed, _ = roomyList(r.Committed, 0, -7)
	r.Ends, _ = roomyList(r.Ends, 9, -7)
	return r
}

// memoryOfReaders is a group with all its lists up to the end of their memory.
func memoryOfReaders(r impl.Readers) impl.Readers {
	r.Committed, r.Ends = r.Committed[:cap(r.Committed)], r.Ends[:cap(r.Ends)]
	r.Readers = slices.Clone(r.Readers[:cap(r.Readers)])
	for k, m := range r.Readers {
		r.Readers[k].Share, r.Readers[k].Read = m.Share[:cap(m.Share)], m.Read[:cap(m.Read)]
	}
	return r
}

// tightReaders are good ones, some of them with lists that are pieces of one memory.
func tightReaders() map[string]impl.Readers {
	all := someReaders()
	noughts := make([]int, 6)
	same := plainReaders(5, noughts...)
	same.Ends, same.Committed = noughts, noughts
	for k := range same.Readers {
		same.Readers[k].Read = noughts
	}
	all["one list for all, nobody In"] = same
	in := copyOfReaders(same)
	in.Ends, in.Committed, in.Generation = noughts, noughts, 3
	for k := range in.Readers {
		in.Readers[k] = knowing(2, nil, noughts...)
		in.Readers[k].Read = noughts
	}
	all["one list for all, all In"] = in
	far := []int{0, 1, 2, 3, 4, 5}
	share := copyOfReaders(in)
	share.Ends, share.Committed = far, far
	for k := range share.Readers {
		share.Readers[k] = impl.Reader{In: true, Generation: k % 3, Share: far, Read: far}
	}
	all["one list of numbers for all"] = share
	pieces := plainReaders(3, 9, 9, 9)
	memory := make([]int, 12)
	pieces.Ends, pieces.Committed, pieces.Generation = []int{9, 9, 9}, memory[:3], 5
	for k := range pieces.Readers {
		pieces.Readers[k] = impl.Reader{In: true, Generation: 1 + k, Share: far[k : k+1], Read: memory[3*k : 3*k+3]}
	}
	all["pieces of one memory"] = pieces
	empty := plainReaders(3, 9, 9, 9)
	for k := range empty.Readers {
		empty.Readers[k].Share = far[k:k]
	}
	all["empty pieces of one memory"] = empty
	return all
}

func TestReadersStayAsTheyAre(t *testing.T) {
	all := badReaders()
	for why, r := range tightReaders() {
		all[why] = r
	}
	for why, first := range all {
		r := roomyReaders(first)
		if !sameReaders(r, first) {
			t.Fatal("the group with room is not the same", why)
		}
		before := copyOfReaders(memoryOfReaders(r))
		wantReadersSteps(t, why, r)
		if !sameReaders(r, first) || !sameReaders(memoryOfReaders(r), before) {
			t.Error("written into the group:", why)
		}
	}
}

// What lies behind a list's end in its memory, or is another list's too, is not
// written over.
func TestReadersThatShareTheirMemoryStayAsTheyAre(t *testing.T) {
	for why, r := range tightReaders() {
		before := copyOfReaders(memoryOfReaders(r))
		wantReadersSteps(t, why, r)
		if !sameReaders(memoryOfReaders(r), before) {
			t.Error("written into the group:", why)
		}
	}
}

func TestEndsAndReadersStepsStayAsTheyAre(t *testing.T) {
	r := newRandom()
	for many := range 83 {
		readers := 1 + r.IntN(5)
		ends, endsMemory := roomyList(randomEnds(r), 9, -7)
		l, memory := roomyList(randomReadersSteps(r, readers, ends, many), gsJoin(0), impl.GroupStep{Kind: -7})
		before, endsBefore := slices.Clone(memory), slices.Clone(endsMemory)
		wantReadersPlay(t, "room", readers, ends, l)
		if got, ok := impl.NewReaders(readers, ends); !ok || !sameReaders(got, plainReaders(readers, ends...)) {
			t.Error("room", readers, ends, got, ok)
		}
		if !slices.Equal(memory, before) || !slices.Equal(endsMemory, endsBefore) {
			t.Error("written into the steps or the Ends", many)
		}
	}
}

func listsOfReaders(r impl.Readers) [][]int {
	l := [][]int{r.Committed, r.Ends}
	for _, m := range r.Readers {
		l = append(l, m.Share, m.Read)
	}
	return l
}

// wantOwnReaders asks that nothing of the answer is of the argument's memory, nor two
// of its lists of one.
func wantOwnReaders(t *testing.T, why string, r impl.Readers, got impl.Readers) {
	t.Helper()
	if listsShare(r.Readers, got.Readers) {
		t.Error(why, "the readers are shared")
	}
	wantOwnLists(t, why, listsOfReaders(r), listsOfReaders(got))
}

func TestReadersShareNoMemory(t *testing.T) {
	for why, first := range tightReaders() {
		if !impl.GoodReaders(first) {
			t.Fatal(why)
		}
		for _, r := range []impl.Readers{first, roomyReaders(first)} {
			for _, x := range readersStepsOn(r) {
				if got, ok := impl.StepReaders(r, x); ok {
					wantOwnReaders(t, why, r, got)
				}
			}
			for k := range r.Readers {
				share, _ := impl.ShareOf(r, k)
				other, _ := impl.ShareOf(r, k)
				wantOwnLists(t, why, listsOfReaders(r), [][]int{share, other})
			}
		}
	}
	r := newRandom()
	for range 200 {
		readers, ends := 1+r.IntN(5), randomEnds(r)
		got, _, _ := impl.PlayReaders(readers, ends, randomReadersSteps(r, readers, ends, r.IntN(81)))
		wantOwnReaders(t, "played", impl.Readers{Ends: ends}, got)
		bare, _, _ := impl.PlayReaders(readers, ends, nil)
		wantOwnReaders(t, "played by no step", impl.Readers{Ends: ends}, bare)
		fresh, _ := impl.NewReaders(readers, ends)
		wantOwnReaders(t, "new", impl.Readers{Ends: ends}, fresh)
	}
}

// spoilReaders writes into all of a group's memory.
func spoilReaders(r impl.Readers) {
	for _, l := range listsOfReaders(r) {
		fill(l)
	}
	for k := range r.Readers[:cap(r.Readers)] {
		r.Readers[:cap(r.Readers)][k] = impl.Reader{Generation: -9}
	}
}

// What is done to an answer, up to the end of its memory, is not seen in an argument,
// nor in what is answered next.
func TestAnsweredReadersMayBeWrittenInto(t *testing.T) {
	for why, first := range tightReaders() {
		r := roomyReaders(first)
		before := copyOfReaders(memoryOfReaders(r))
		for range 2 {
			for _, x := range readersStepsOn(r) {
				got, _ := wantReadersStep(t, why, r, x)
				spoilReaders(got)
			}
			for k := range r.Readers {
				share, _ := impl.ShareOf(r, k)
				fill(share)
			}
			wantReaders(t, why, r)
		}
		if !sameReaders(memoryOfReaders(r), before) {
			t.Error("written into the group:", why)
		}
	}
	l := []impl.GroupStep{gsJoin(0), gsSync(0), gsRead(0, 0, 3), gsCommit(0, 0), gsJoin(1), gsSync(1), gsRead(1, 1, 1), gsLeave(0)}
	ends := []int{5, 3}
	for range 2 {
		r, did, _ := impl.PlayReaders(2, ends, l)
		spoilReaders(r)
		for i := range did[:cap(did)] {
			did[:cap(did)][i] = false
		}
		wantReadersPlay(t, "once more", 2, ends, l)
		fresh, _ := impl.NewReaders(3, ends)
		spoilReaders(fresh)
	}
	if !slices.Equal(ends, []int{5, 3}) {
		t.Error("written into the Ends", ends)
	}
	TestNewReaders(t)
}

func handsOut(r impl.Readers) bool {
	return r.Generation+cap(r.Readers)+cap(r.Committed)+cap(r.Ends) != 0
}

// What is refused hands out nothing, not even an empty list with memory of an
// argument behind it.
func TestRefusedReadersHandOutNothing(t *testing.T) {
	all := badReaders()
	for why, r := range someReaders() {
		all[why] = r
	}
	for why, first := range all {
		r := roomyReaders(first)
		for _, x := range readersStepsOn(r) {
			if got, ok := impl.StepReaders(r, x); !ok && handsOut(got) {
				t.Error(why, x, got)
			}
		}
		for k := -1; k <= 6; k++ {
			if l, ok := impl.ShareOf(r, k); !ok && cap(l) != 0 {
				t.Error(why, k, l)
			}
		}
	}
	for _, readers := range []int{-1, 0, 6} {
		if r, ok := impl.NewReaders(readers, []int{5, 3}); ok || handsOut(r) {
			t.Error(readers, r, ok)
		}
		if r, did, ok := impl.PlayReaders(readers, []int{5, 3}, make([]impl.GroupStep, 3)); ok || handsOut(r) || cap(did) != 0 {
			t.Error(readers, r, did, ok)
		}
	}
	for _, ends := range [][]int{nil, {-1}, {101}, make([]int, 7)} {
		if r, ok := impl.NewReaders(2, ends); ok || handsOut(r) {
			t.Error(ends, r, ok)
		}
		if r, did, ok := impl.PlayReaders(2, ends, make([]impl.GroupStep, 3)); ok || handsOut(r) || cap(did) != 0 {
			t.Error(ends, r, did, ok)
		}
	}
	if r, did, ok := impl.PlayReaders(3, []int{5, 3}, make([]impl.GroupStep, 81)); ok || handsOut(r) || cap(did) != 0 {
		t.Error("one step too many", r, did, ok)
	}
}

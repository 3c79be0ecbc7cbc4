package tests

import (
	"math/rand/v2"
	"slices"
	"testing"

	"loop.example/g00361/impl"
)

// Promise 19 for chapter 8: answers at any arguments, nothing written into an
// argument, no memory shared.

// numbersIn are the places of all numbers of a world.
func numbersIn(s *impl.Snap) []*int {
	l := []*int{&s.Sent, &s.Total}
	for i := range s.Amounts {
		l = append(l, &s.Amounts[i])
	}
	for i := range s.Chans {
		c := &s.Chans[i]
		l = append(l, &c.From, &c.To)
		for j := range c.Way {
			l = append(l, &c.Way[j])
		}
	}
	for i := range s.Pictures {
		l = append(l, &s.Pictures[i].Amount)
		for j := range s.Pictures[i].In {
			l = append(l, &s.Pictures[i].In[j])
		}
	}
	return l
}

// oddWorlds have an odd number or list at each place where a world has one.
func oddWorlds() []impl.Snap {
	many := make([]int, 1<<16)
	l := []impl.Snap{
		{Amounts: many},
		{Amounts: many[:2], Chans: make([]impl.Chan, 2), Pictures: make([]impl.Picture, 2)},
		{Amounts: many[:4], Chans: make([]impl.Chan, 12), Pictures: make([]impl.Picture, 4)},
		{Chans: make([]impl.Chan, 1<<16)},
		{Pictures: make([]impl.Picture, 1<<16)},
		plainNew(40, 1),
		changedWorld(func(s *impl.Snap) { s.Amounts = many }),
		changedWorld(func(s *impl.Snap) { s.Chans = make([]impl.Chan, 1<<16) }),
		changedWorld(func(s *impl.Snap) { s.Chans[3].Way = many }),
		changedWorld(func(s *impl.Snap) { s.Pictures = make([]impl.Picture, 1<<16) }),
		changedWorld(func(s *impl.Snap) { s.Pictures[1].In = many }),
		changedWorld(func(s *impl.Snap) { s.Pictures[1].Closed = make([]bool, 1<<16) }),
	}
	first := midway()
	for _, n := range append(oddNumbers(), 2, 3, 4, 8, 9, 250, 251, 1000, 1000000, 1000001) {
		for i := range numbersIn(&first) {
			s := midway()
			*numbersIn(&s)[i] = n
			l = append(l, s)
		}
		l = append(l, onWayOnly([]int{n, n}, nil, nil), onWayOnly([]int{n, -n}, []int{n}, []int{-n}))
	}
	return l
}

func TestAnyWorldIsAnswered(t *testing.T) {
	for _, s := range oddWorlds() {
		wantSnap(t, "odd", s)
		for k := -1; k <= 6; k++ {
			for _, x := range []impl.SnapStep{snSend(k, 1), snTake(k), snBegin(k)} {
				wantStep(t, "odd", s, x)
			}
		}
	}
}

func TestAnyStepIsAnswered(t *testing.T) {
	numbers := append(oddNumbers(), 2, 3, 4, 6, 10, 11, 1000)
	var all []impl.SnapStep
	for _, a := range numbers {
		for _, b := range numbers {
			all = append(all, snSend(a, b), impl.SnapStep{Kind: 2, K: a, N: b}, impl.SnapStep{Kind: 3, K: a, N: b}, impl.SnapStep{Kind: a, K: b}, impl.SnapStep{Kind: a, N: b}, impl.SnapStep{Kind: a, K: a, N: b})
		}
	}
	for _, s := range []impl.Snap{{}, midway(), ended(), plainNew(2, 250), onWayOnly([]int{1000, 0}, nil, nil), badWorlds()["sent -1"]} {
		for _, x := range all {
			wantStep(t, "odd", s, x)
		}
	}
	for i, x := range all {
		wantPlay(t, "odd", 3, 10, []impl.SnapStep{x, snSend(2, 3), snBegin(0), x, all[len(all)-1-i], snTake(2), snTake(0), x})
	}
	wantPlay(t, "many", 3, 10, make([]impl.SnapStep, 1<<16))
	wantPlay(t, "many good ones", 3, 10, slices.Repeat([]impl.SnapStep{snSend(0, 1), snTake(0)}, 1<<16))
}

func TestAnyProcessesAndAmountsAreAnswered(t *testing.T) {
	for _, procs := range append(oddNumbers(), 2, 3, 4, 5) {
		for _, amount := range append(oddNumbers(), 249, 250, 251) {
			wantPlay(t, "odd", procs, amount, nil)
			wantPlay(t, "odd", procs, amount, []impl.SnapStep{snSend(0, 1), snBegin(1), snTake(0)})
			want, _, wanted := plainPlay(procs, amount, nil)
			if s, ok := impl.NewSnap(procs, amount); ok != wanted || !sameSnap(s, want) {
				t.Error(procs, amount, s, ok)
			}
		}
	}
}

// shifted changes one number, bool or list of a world a little.
func shifted(r *rand.Rand, s impl.Snap) impl.Snap {
	s = copyOfSnap(s)
	by := 1 - 2*r.IntN(2)
	numbers := numbersIn(&s)
	p := &s.Pictures[r.IntN(len(s.Pictures))]
	c := &s.Chans[r.IntN(len(s.Chans))]
	switch r.IntN(12) {
	case 0:
		p.Taken = !p.Taken
	case 1, 2:
		at := r.IntN(len(p.Closed))
		p.Closed[at] = !p.Closed[at]
	case 3:
		c.Way = append(c.Way, 0)
	case 4:
		c.Way = slices.Delete(c.Way, 0, min(1, len(c.Way)))
	case 5:
		c.Way = append(c.Way, 3)
		s.Total += 3
	case 6:
		// All stay as many together.
		s.Amounts[0] += 4 * by
		s.Amounts[1] -= 4 * by
	case 7:
		p.Amount = []int{-1, 0, 1000, 1001}[r.IntN(4)]
	case 8:
		p.In[r.IntN(len(p.In))] = []int{-1, 0, 1000000, 1000001}[r.IntN(4)]
	default:
		*numbers[r.IntN(len(numbers))] += by
	}
	return s
}

func TestWorldsNearToGoodOnesAreAnswered(t *testing.T) {
	r := newRandom()
	good := 0
	for range 3000 {
		s := shifted(r, randomWorld(r))
		if plainSnapGood(s) {
			good++
		}
		wantSnap(t, "near", s)
		for k := range s.Chans {
			wantStep(t, "near", s, snTake(k))
			wantStep(t, "near", s, snSend(k, 1))
			wantStep(t, "near", s, snBegin(k))
		}
	}
	if good < 100 || good > 2900 {
		t.Error("one kind of worlds alone", good)
	}
}

// roomySnap is the same world, all its lists with room behind their length, in
// which stands what would be taken for more of them.
func roomySnap(first impl.Snap) impl.Snap {
	s := impl.Snap{Sent: first.Sent, Total: first.Total}
	s.Amounts, _ = roomyList(first.Amounts, 5, -7)
	for _, c := range first.Chans {
		c.Way, _ = roomyList(c.Way, 6, 0, -7)
		s.Chans = append(s.Chans, c)
	}
	for _, p := range first.Pictures {
		p.In, _ = roomyList(p.In, 8, -7)
		p.Closed, _ = roomyList(p.Closed, true, false, true)
		s.Pictures = append(s.Pictures, p)
	}
	s.Chans, _ = roomyList(s.Chans, impl.Chan{From: 1, To: 0, Way: []int{9}}, impl.Chan{From: -7})
	s.Pictures, _ = roomyList(s.Pictures, impl.Picture{Taken: true, Amount: 9}, impl.Picture{Amount: -7})
	return s
}

// allMemory is a world with all its lists up to the end of their memory.
func allMemory(s impl.Snap) impl.Snap {
	s.Amounts = s.Amounts[:cap(s.Amounts)]
	s.Chans = slices.Clone(s.Chans[:cap(s.Chans)])
	for i, c := range s.Chans {
		s.Chans[i].Way = c.Way[:cap(c.Way)]
	}
	s.Pictures = slices.Clone(s.Pictures[:cap(s.Pictures)])
	for i, p := range s.Pictures {
		s.Pictures[i].In, s.Pictures[i].Closed = p.In[:cap(p.In)], p.Closed[:cap(p.Closed)]
	}
	return s
}

func TestWorldsStayAsTheyAre(t *testing.T) {
	all := badWorlds()
	for why, s := range someWorlds() {
		all[why] = s
	}
	for why, first := range all {
		s := roomySnap(first)
		if !sameSnap(s, first) {
			t.Fatal("the world with room is not the same", why)
		}
		before := copyOfSnap(allMemory(s))
		wantSteps(t, why, s)
		if !sameSnap(s, first) || !sameSnap(allMemory(s), before) {
			t.Error("written into the world:", why)
		}
	}
}

func TestStepsStayAsTheyAre(t *testing.T) {
	r := newRandom()
	for many := range 83 {
		first := randomSteps(r, 3, many)
		l, memory := roomyList(first, snSend(0, 1), snBegin(0), impl.SnapStep{Kind: -7})
		before := slices.Clone(memory)
		wantPlay(t, "room", 3, 10, l)
		if !slices.Equal(memory, before) {
			t.Error("written into the steps", many)
		}
	}
}

// numberLists are all lists of numbers of a world.
func numberLists(s impl.Snap) [][]int {
	l := [][]int{s.Amounts}
	for _, c := range s.Chans {
		l = append(l, c.Way)
	}
	for _, p := range s.Pictures {
		l = append(l, p.In)
	}
	return l
}

// wantOwnWorld asks that nothing of the answer is of the argument's memory, nor
// two of its lists of one.
func wantOwnWorld(t *testing.T, why string, s impl.Snap, got impl.Snap) {
	t.Helper()
	wantOwnLists(t, why, numberLists(s), numberLists(got))
	if listsShare(s.Chans, got.Chans) || listsShare(s.Pictures, got.Pictures) {
		t.Error(why, "a list is shared")
	}
	for i, p := range got.Pictures {
		for _, x := range s.Pictures {
			if listsShare(p.Closed, x.Closed) {
				t.Error(why, "a picture is shared", i)
			}
		}
		for _, x := range got.Pictures[:i] {
			if listsShare(p.Closed, x.Closed) {
				t.Error(why, "two pictures share", i)
			}
		}
	}
}

// tightWorlds are good ones, some of them with lists that are pieces of one memory.
func tightWorlds() map[string]impl.Snap {
	all := someWorlds()
	zeros, ones, open := make([]int, 8), slices.Repeat([]int{1}, 16), make([]bool, 8)
	one := plainNew(3, 0)
	for i := range one.Pictures {
		one.Pictures[i].In, one.Pictures[i].Closed = zeros[i:i+3], open[i:i+3]
	}
	one.Amounts = ones[:3]
	for i := range one.Chans {
		one.Chans[i].Way = ones[i : i+i]
	}
	one.Total = 3 + added([]int{0, 1, 2, 3, 4, 5})
	all["one memory for all"] = one
	same := plainNew(4, 0)
	for i := range same.Pictures {
		same.Pictures[i].In, same.Pictures[i].Closed = zeros[:4], open[:4]
	}
	same.Amounts = zeros[:4]
	for i := range same.Chans {
		same.Chans[i].Way = ones[:2]
		same.Total += 2
	}
	all["the same lists"] = same
	return all
}

func TestWorldsShareNoMemory(t *testing.T) {
	for why, first := range tightWorlds() {
		if !impl.GoodSnap(first) {
			t.Fatal(why)
		}
		for _, s := range []impl.Snap{first, roomySnap(first)} {
			for _, x := range stepsOn(s) {
				got, _ := impl.StepSnap(s, x)
				wantOwnWorld(t, why, s, got)
			}
			got, _, _ := impl.FinishSnap(s)
			wantOwnWorld(t, why+": finished", s, got)
		}
	}
	r := newRandom()
	for range 60 {
		l := randomSteps(r, 4, 80)
		got, _, _ := impl.PlaySnap(4, 20, l)
		wantOwnWorld(t, "played", impl.Snap{}, got)
	}
	a, _ := impl.NewSnap(4, 1)
	b, _ := impl.NewSnap(4, 1)
	wantOwnWorld(t, "new", a, b)
}

// spoilSnap writes into all of a world's memory.
func spoilSnap(s impl.Snap) {
	s = impl.Snap{Amounts: s.Amounts, Chans: s.Chans[:cap(s.Chans)], Pictures: s.Pictures[:cap(s.Pictures)]}
	for _, l := range numberLists(s) {
		fill(l)
	}
	for i, p := range s.Pictures {
		for j := range p.Closed[:cap(p.Closed)] {
			p.Closed[:cap(p.Closed)][j] = true
		}
		s.Pictures[i] = impl.Picture{Amount: -9}
	}
	for i := range s.Chans {
		s.Chans[i] = impl.Chan{From: -9}
	}
}

// What is done to an answer, up to the end of its memory, is not seen in an
// argument, nor in what is answered next.
func TestAnsweredWorldsMayBeWrittenInto(t *testing.T) {
	for why, first := range someWorlds() {
		s := roomySnap(first)
		before := copyOfSnap(allMemory(s))
		for range 2 {
			for _, x := range stepsOn(s) {
				got, _ := wantStep(t, why, s, x)
				spoilSnap(got)
			}
			got, _, _ := impl.FinishSnap(s)
			spoilSnap(got)
			wantSnap(t, why, s)
		}
		if !sameSnap(allMemory(s), before) {
			t.Error("written into the world:", why)
		}
	}
	l := []impl.SnapStep{snSend(0, 1), snBegin(1), snTake(0), snSend(1, 3)}
	for range 2 {
		s, did, _ := impl.PlaySnap(2, 10, l)
		spoilSnap(s)
		for i := range did[:cap(did)] {
			did[:cap(did)][i] = false
		}
		wantPlay(t, "once more", 2, 10, l)
	}
	fresh, _ := impl.NewSnap(3, 250)
	spoilSnap(fresh)
	TestWhatANewSnapHas(t)
}

// What is refused hands out nothing, not even an empty list with memory of an
// argument behind it; and a world stays good where one step of it was.
func TestRefusedWorldsHandOutNothing(t *testing.T) {
	for why, bad := range badWorlds() {
		s := roomySnap(bad)
		for _, x := range []impl.SnapStep{snSend(0, 1), snTake(0), snTake(4), snBegin(2)} {
			got, ok := impl.StepSnap(s, x)
			if ok || cap(got.Amounts)+cap(got.Chans)+cap(got.Pictures) != 0 {
				t.Error(why, got, ok)
			}
		}
		got, _, ok := impl.FinishSnap(s)
		if ok || cap(got.Amounts)+cap(got.Chans)+cap(got.Pictures) != 0 {
			t.Error(why, got, ok)
		}
	}
	for why, good := range someWorlds() {
		s := roomySnap(good)
		for _, x := range stepsOn(s) {
			if got, ok := impl.StepSnap(s, x); !ok && cap(got.Amounts)+cap(got.Chans)+cap(got.Pictures) != 0 {
				t.Error(why, x, got)
			}
		}
		if got, _, ok := impl.FinishSnap(s); !ok && cap(got.Amounts)+cap(got.Chans)+cap(got.Pictures) != 0 {
			t.Error(why, got)
		}
	}
}

// The choice among a world's channels is not seen: each answer is the same
// whenever it is asked for.
func TestCutsAreAlwaysTheSame(t *testing.T) {
	r := newRandom()
	for range 40 {
		s := randomWorld(r)
		end, many, ok := impl.FinishSnap(s)
		for range 20 {
			again, manyAgain, okAgain := impl.FinishSnap(s)
			if !sameSnap(again, end) || manyAgain != many || okAgain != ok {
				t.Fatal(s, again, end)
			}
		}
	}
}

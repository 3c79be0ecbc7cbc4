package tests

import (
	"math/rand/v2"
	"slices"
	"testing"

	"loop.example/g00361/impl"
)

// Promise 19 for chapter 11: answers at any arguments, nothing written into an
// argument, no memory shared.

// numbersOfIsr are the places of all numbers of a group.
func numbersOfIsr(g *impl.Group) []*int {
	l := []*int{&g.Epoch, &g.Leader, &g.High}
	for i := range g.InStep {
		l = append(l, &g.InStep[i])
	}
	for k := range g.Replicas {
		r := &g.Replicas[k]
		l = append(l, &r.Epoch, &r.Known)
		for i := range r.Log {
			l = append(l, &r.Log[i].Epoch, &r.Log[i].Value)
		}
	}
	return l
}

func oddIsr() []impl.Group {
	many := make([]impl.Row, 1<<16)
	l := []impl.Group{
		{},
		{Replicas: []impl.Replica{}, InStep: []int{}},
		{InStep: []int{0, 1}, High: 1 << 40, Replicas: make([]impl.Replica, 2)},
		changedIsr(func(g *impl.Group) { g.Replicas = make([]impl.Replica, 1<<16) }),
		changedIsr(func(g *impl.Group) { g.Replicas = nil }),
		changedIsr(func(g *impl.Group) { g.Replicas = g.Replicas[:1] }),
		changedIsr(func(g *impl.Group) { g.InStep = make([]int, 1<<16) }),
		changedIsr(func(g *impl.Group) { g.InStep = steps(1<<16, 0, 1) }),
		changedIsr(func(g *impl.Group) { g.InStep = nil }),
	}
	for k := range 4 {
		l = append(l,
			changedIsr(func(g *impl.Group) { g.Replicas[k].Log = many }),
			changedIsr(func(g *impl.Group) { g.Replicas[k].Log = nil }),
			changedIsr(func(g *impl.Group) { g.Replicas[k] = impl.Replica{} }))
	}
	first := keeping()
	for _, n := range append(oddNumbers(), -2, 2, 3, 4, 5, 6, 29, 30, 31, 63, 64, 65, 99, 100, 101) {
		for i := range numbersOfIsr(&first) {
			g := keeping()
			*numbersOfIsr(&g)[i] = n
			l = append(l, g)
		}
		all := keeping()
		for _, p := range numbersOfIsr(&all) {
			*p = n
		}
		l = append(l, all)
	}
	return l
}

func TestAnyIsrIsAnswered(t *testing.T) {
	for _, g := range oddIsr() {
		wantIsrSteps(t, "odd", g)
	}
}

func TestAnyIsrStepIsAnswered(t *testing.T) {
	numbers := append(oddNumbers(), 2, 3, 4, 5, 6, 7, 30, 31, 63, 64)
	var all []impl.IsrStep
	for kind := -1; kind <= 7; kind++ {
		for _, a := range numbers {
			for _, b := range numbers {
				all = append(all, impl.IsrStep{Kind: kind, K: a, N: b})
			}
		}
	}
	for _, n := range numbers {
		all = append(all, impl.IsrStep{Kind: n}, impl.IsrStep{Kind: n, K: n, N: n})
	}
	for _, g := range []impl.Group{{}, keeping(), plainIsr(2), plainIsr(4), allFull(), badIsr()["a High of -1"]} {
		for _, x := range all {
			wantIsrStep(t, "odd", g, x)
		}
	}
	for i, x := range all {
		wantIsrPlay(t, "odd", 3, []impl.IsrStep{x, isAppend(4), x, isFetch(1, 1), x, isShrink(2), all[len(all)-1-i], isRaise(), x, isElect(1), x})
	}
	wantIsrPlay(t, "many", 3, make([]impl.IsrStep, 1<<16))
	wantIsrPlay(t, "many good ones", 2, slices.Repeat([]impl.IsrStep{isFetch(1, 1)}, 1<<16))
}

func TestAnyNumbersOfReplicasAreAnswered(t *testing.T) {
	for _, n := range append(oddNumbers(), 2, 3, 4, 5, 6) {
		want, wanted := plainNewIsr(n)
		if g, ok := impl.NewGroup(n); ok != wanted || !sameIsr(g, want) {
			t.Error(n, g, ok)
		}
		wantIsrPlay(t, "odd", n, []impl.IsrStep{isAppend(1), isFetch(1, 1), isFetch(2, 1), isRaise(), isElect(3)})
		for why, g := range someIsr() {
			want, wanted := plainLag(g, n)
			if lag, ok := impl.LagIn(g, n); lag != want || ok != wanted {
				t.Error(why, n, lag, ok)
			}
		}
	}
}

// shiftedIsr changes one number or list of a group a little.
func shiftedIsr(r *rand.Rand, first impl.Group) impl.Group {
	g := copyOfIsr(first)
	one := &g.Replicas[r.IntN(len(g.Replicas))]
	switch r.IntN(10) {
	case 0:
		one.Log = append(one.Log, impl.Row{Epoch: r.IntN(g.Epoch + 2), Value: r.IntN(3)})
	case 1:
		one.Log = one.Log[:r.IntN(len(one.Log)+1)]
	case 2:
		one.Known = r.IntN(len(one.Log) + 1)
	case 3:
		one.Epoch = g.Epoch
	case 4:
		g.InStep = steps(1+r.IntN(len(g.Replicas)), 0, 1)
	case 5:
		g.Leader = r.IntN(len(g.Replicas))
	case 6:
		*one = g.Replicas[g.Leader]
		one.Log = slices.Clone(one.Log)
	default:
		numbers := numbersOfIsr(&g)
		*numbers[r.IntN(len(numbers))] += 1 - 2*r.IntN(2)
	}
	return g
}

func TestIsrNearToGoodOnesAreAnswered(t *testing.T) {
	r := newRandom()
	good := 0
	for i := range 3000 {
		first := randomIsr(r)
		if i%2 == 0 {
			first = anyIsr(r)
		}
		near := shiftedIsr(r, first)
		if plainIsrGood(near) {
			good++
		}
		wantIsrSteps(t, "near", near)
	}
	if good < 600 || good > 2400 {
		t.Error("one kind of groups alone", good)
	}
}

// roomyIsr is the same group, all its lists with room behind their length, in which
// stands what would be taken for more of them.
func roomyIsr(first impl.Group) impl.Group {
	g := first
	g.Replicas = nil
	for _, r := range first.Replicas {
		r.Log, _ = roomyList(r.Log, impl.Row{Epoch: first.Epoch, Value: 1}, impl.Row{Epoch: -7})
		g.Replicas = append(g.Replicas, r)
	}
	g.Replicas, _ = roomyList(g.Replicas, impl.Replica{}, impl.Replica{Epoch: -7})
	g.InStep, _ = roomyList(g.InStep, len(first.Replicas)-1, -7)
	return g
}

// memoryOfIsr is a group with all its lists up to the end of their memory.
func memoryOfIsr(g impl.Group) impl.Group {
	g.InStep = g.InStep[:cap(g.InStep)]
	g.Replicas = slices.Clone(g.Replicas[:cap(g.Replicas)])
	for k, r := range g.Replicas {
		g.Replicas[k].Log = r.Log[:cap(r.Log)]
	}
	return g
}

// tightIsr are good ones, some of them with lists that are pieces of one memory.
func tightIsr() map[string]impl.Group {
	all := someIsr()
	log := rows(1, 1, 2, 3)
	pieces := keeping()
	for k := range pieces.Replicas {
		pieces.Replicas[k] = impl.Replica{Log: log[:k+1], Epoch: 4, Known: min(k+1, 2)}
	}
	pieces.InStep, pieces.High = []int{1, 2, 3}, 1
	all["pieces of one memory"] = pieces
	behind := copyOfIsr(pieces)
	for k := range behind.Replicas {
		behind.Replicas[k] = impl.Replica{Log: log[3-k:], Epoch: 3}
	}
	behind.High, behind.InStep = 0, []int{0, 1, 2, 3}[:2]
	all["ends of one memory"] = behind
	same := copyOfIsr(pieces)
	for k := range same.Replicas {
		same.Replicas[k] = impl.Replica{Log: log, Epoch: 4, Known: k}
	}
	all["the same log"] = same
	empty := plainIsr(3)
	for k := range empty.Replicas {
		empty.Replicas[k].Log = log[k:k]
	}
	all["empty pieces of one memory"] = empty
	return all
}

func TestIsrStayAsTheyAre(t *testing.T) {
	all := badIsr()
	for why, g := range tightIsr() {
		all[why] = g
	}
	for why, first := range all {
		g := roomyIsr(first)
		if !sameIsr(g, first) {
			t.Fatal("the group with room is not the same", why)
		}
		before := copyOfIsr(memoryOfIsr(g))
		wantIsrSteps(t, why, g)
		if !sameIsr(g, first) || !sameIsr(memoryOfIsr(g), before) {
			t.Error("written into the group:", why)
		}
	}
}

// What lies behind a log's end in its memory is not written over by what is put
// behind the log.
func TestIsrThatShareTheirMemoryStayAsTheyAre(t *testing.T) {
	for why, g := range tightIsr() {
		before := copyOfIsr(memoryOfIsr(g))
		wantIsrSteps(t, why, g)
		if !sameIsr(memoryOfIsr(g), before) {
			t.Error("written into the group:", why)
		}
	}
}

func TestIsrStepsStayAsTheyAre(t *testing.T) {
	r := newRandom()
	for many := range 103 {
		replicas := 2 + r.IntN(3)
		l, memory := roomyList(randomIsrSteps(r, replicas, many), isAppend(1), impl.IsrStep{Kind: -7})
		before := slices.Clone(memory)
		wantIsrPlay(t, "room", replicas, l)
		if !slices.Equal(memory, before) {
			t.Error("written into the steps", many)
		}
	}
}

// wantOwnIsr asks that nothing of the answer is of the argument's memory, nor two of
// its lists of one.
func wantOwnIsr(t *testing.T, why string, g impl.Group, got impl.Group) {
	t.Helper()
	if listsShare(g.InStep, got.InStep) || listsShare(g.Replicas, got.Replicas) {
		t.Error(why, "a list is shared")
	}
	for i, r := range got.Replicas {
		for _, given := range g.Replicas {
			if listsShare(r.Log, given.Log) {
				t.Error(why, "a log is shared", i)
			}
		}
		for _, other := range got.Replicas[:i] {
			if listsShare(r.Log, other.Log) {
				t.Error(why, "two logs share", i)
			}
		}
	}
}

func TestIsrShareNoMemory(t *testing.T) {
	for why, first := range tightIsr() {
		if !impl.GoodGroup(first) {
			t.Fatal(why)
		}
		for _, g := range []impl.Group{first, roomyIsr(first)} {
			for _, x := range isrStepsOn(g) {
				if got, ok := impl.StepGroup(g, x); ok {
					wantOwnIsr(t, why, g, got)
				}
			}
			settled, _, _ := impl.SettleGroup(g)
			wantOwnIsr(t, why, g, settled)
			l, _ := impl.CommittedRows(g)
			for _, r := range g.Replicas {
				if listsShare(l, r.Log) {
					t.Error(why, "what is committed is shared")
				}
			}
		}
	}
	r := newRandom()
	for range 100 {
		replicas := 2 + r.IntN(3)
		got, _, _ := impl.PlayGroup(replicas, randomIsrSteps(r, replicas, 100))
		wantOwnIsr(t, "played", impl.Group{}, got)
	}
	for replicas := 2; replicas <= 4; replicas++ {
		got, _ := impl.NewGroup(replicas)
		wantOwnIsr(t, "new", impl.Group{}, got)
	}
}

// spoilIsr writes into all of a group's memory.
func spoilIsr(g impl.Group) {
	fill(g.InStep)
	for _, r := range g.Replicas {
		spoilRows(r.Log)
	}
	for k := range g.Replicas[:cap(g.Replicas)] {
		g.Replicas[:cap(g.Replicas)][k] = impl.Replica{Epoch: -9}
	}
}

func spoilRows(l []impl.Row) {
	for i := range l[:cap(l)] {
		l[:cap(l)][i] = impl.Row{Epoch: -9}
	}
}

// What is done to an answer, up to the end of its memory, is not seen in an
// argument, nor in what is answered next.
func TestAnsweredIsrMayBeWrittenInto(t *testing.T) {
	for why, first := range tightIsr() {
		g := roomyIsr(first)
		before := copyOfIsr(memoryOfIsr(g))
		for range 2 {
			for _, x := range isrStepsOn(g) {
				got, _ := wantIsrStep(t, why, g, x)
				spoilIsr(got)
			}
			settled, _, _ := impl.SettleGroup(g)
			spoilIsr(settled)
			l, _ := impl.CommittedRows(g)
			spoilRows(l)
			wantIsr(t, why, g)
		}
		if !sameIsr(memoryOfIsr(g), before) {
			t.Error("written into the group:", why)
		}
	}
	l := []impl.IsrStep{isAppend(7), isFetch(1, 1), isShrink(2), isRaise(), isElect(1), isFetch(2, 1), isExpand(2)}
	for range 2 {
		g, did, _ := impl.PlayGroup(3, l)
		spoilIsr(g)
		for i := range did[:cap(did)] {
			did[:cap(did)][i] = false
		}
		wantIsrPlay(t, "once more", 3, l)
		fresh, _ := impl.NewGroup(3)
		spoilIsr(fresh)
	}
	TestNewGroup(t)
}

// What is refused hands out nothing, not even an empty list with memory of an
// argument behind it.
func TestRefusedIsrHandOutNothing(t *testing.T) {
	all := badIsr()
	for why, g := range someIsr() {
		all[why] = g
	}
	for why, first := range all {
		g := roomyIsr(first)
		for _, x := range isrStepsOn(g) {
			if got, ok := impl.StepGroup(g, x); !ok && cap(got.InStep)+cap(got.Replicas) != 0 {
				t.Error(why, x, got)
			}
		}
	}
	for why, g := range badIsr() {
		if l, ok := impl.CommittedRows(roomyIsr(g)); ok || cap(l) != 0 {
			t.Error(why, l, ok)
		}
		if got, up, ok := impl.SettleGroup(roomyIsr(g)); ok || up != 0 || cap(got.InStep)+cap(got.Replicas) != 0 {
			t.Error(why, got, up, ok)
		}
	}
	for _, replicas := range []int{-1, 0, 1, 5} {
		if g, ok := impl.NewGroup(replicas); ok || cap(g.InStep)+cap(g.Replicas) != 0 {
			t.Error(replicas, g, ok)
		}
		if g, did, ok := impl.PlayGroup(replicas, make([]impl.IsrStep, 3)); ok || cap(g.InStep)+cap(g.Replicas)+cap(did) != 0 {
			t.Error(replicas, g, did, ok)
		}
	}
	if g, did, ok := impl.PlayGroup(3, make([]impl.IsrStep, 101)); ok || cap(g.InStep)+cap(g.Replicas)+cap(did) != 0 {
		t.Error("one step too many", g, did, ok)
	}
}

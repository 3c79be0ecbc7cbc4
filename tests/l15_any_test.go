package tests

import (
	"math"
	"slices"
	"testing"

	"loop.example/g00361/impl"
)

// Promise 19 for chapter 15: answers at any arguments, nothing written into an
// argument, no memory shared.

// numbersOfCall are the places of all numbers of a call.
func numbersOfCall(c *impl.Call) []*int {
	return []*int{&c.Client, &c.Object, &c.Value, &c.Begin, &c.End}
}

// oddCalls are lists of any calls, some of them good.
func oddCalls() [][]impl.Call {
	l := [][]impl.Call{nil, {}, make([]impl.Call, 7), make([]impl.Call, 1<<16), slices.Repeat(calls(readOf(0, 0, 0, 0, 1)), 1<<16), oneByOne(1 << 16)}
	numbers := append(oddNumbers(), -2, 2, 3, 4, 5, 6, 7, 9, 10, 63, 64, 99, 100, 101)
	for _, n := range numbers {
		for at := range numbersOfCall(&impl.Call{}) {
			for _, c := range []impl.Call{{}, readOf(3, 2, 9, 0, 100), writeOf(0, 0, 1, 0, 1)} {
				*numbersOfCall(&c)[at] = n
				l = append(l, calls(c), calls(c, c), calls(readOf(1, 0, 0, 2, 3), c), calls(c, writeOf(1, 0, 1, 2, 3)), append(oneByOne(6), c), slices.Repeat(calls(c), 7))
			}
		}
		all := impl.Call{Client: n, Object: n, Write: n%2 == 0, Value: n, Begin: n, End: n}
		l = append(l, calls(all), calls(all, writeOf(0, 0, 1, 0, 1)), slices.Repeat(calls(all), 7), slices.Repeat(calls(all), 9))
	}
	for _, from := range numbers {
		for _, to := range numbers {
			l = append(l, calls(readOf(1, 1, 0, from, to)), calls(readOf(1, 1, 0, from, to), readOf(1, 1, 0, to, from)))
		}
	}
	return append(l, calls(readOf(0, 0, 0, math.MinInt, math.MaxInt), readOf(0, 0, 0, math.MaxInt, math.MinInt)))
}

func TestAnyCallsAreAnswered(t *testing.T) {
	for _, l := range oddCalls() {
		wantCalls(t, "odd", l, [][]int{nil, {0}, {1, 0}, steps(min(len(l), 8), 0, 1), make([]int, len(l))}, []int{-1, 0, 1, 2, 3})
	}
}

func TestAnyObjectIsAnswered(t *testing.T) {
	all := badCalls()
	for why, l := range someCalls() {
		all[why] = l
	}
	for why, l := range all {
		wantCalls(t, why, l, nil, append(oddNumbers(), -2, 2, 3, 4, 63, 64))
	}
}

func TestAnyOrderIsAnswered(t *testing.T) {
	orders := append(oddLists(), slices.Repeat([]int{0}, 7), slices.Repeat([]int{math.MinInt}, 7), slices.Repeat([]int{math.MaxInt}, 4))
	for _, n := range oddNumbers() {
		for many := range 8 {
			for at := range many {
				order := steps(many, 0, 1)
				order[at] = n
				orders = append(orders, order)
			}
		}
	}
	all := badCalls()
	for why, l := range someCalls() {
		all[why] = l
	}
	for why, l := range all {
		for _, order := range orders {
			wantOrder(t, why, l, order)
		}
	}
}

// Good calls of which one number is a little more or less.
func TestCallsNearToGoodOnesAreAnswered(t *testing.T) {
	r := newRandom()
	good := 0
	for range 3000 {
		l := append(randomCalls(r, 6), readOf(r.IntN(4), r.IntN(3), r.IntN(3), r.IntN(9), r.IntN(30)))
		c := &l[r.IntN(len(l))]
		*numbersOfCall(c)[r.IntN(5)] += 1 - 2*r.IntN(2)
		if plainCallsGood(l) {
			good++
		}
		wantCalls(t, "near", l, [][]int{r.Perm(len(l)), r.Perm(len(l) + 1), steps(len(l), r.IntN(2), 1)}, steps(5, -1, 1))
	}
	if good < 400 || good > 2600 {
		t.Error("one kind of calls alone", good)
	}
}

// roomyCalls are the same calls, with room behind them in which stands what would be
// taken for more of them, or spoil them.
func roomyCalls(first []impl.Call) ([]impl.Call, []impl.Call) {
	return roomyList(first, writeOf(3, 0, 9, 98, 99), impl.Call{Client: -7})
}

func TestCallsStayAsTheyAre(t *testing.T) {
	all := badCalls()
	for why, l := range someCalls() {
		all[why] = l
	}
	for why, first := range all {
		l, memory := roomyCalls(first)
		order, orderMemory := roomyList(steps(len(l), len(l)-1, -1), len(l), -7)
		before, orderBefore := slices.Clone(memory), slices.Clone(orderMemory)
		wantCalls(t, why, l, [][]int{order, order[:0], order[:len(order)/2], orderMemory}, steps(5, -1, 1))
		if !slices.Equal(memory, before) {
			t.Error("written into the calls:", why)
		}
		if !slices.Equal(orderMemory, orderBefore) {
			t.Error("written into the order:", why)
		}
	}
}

// An order is not put in another order where it stands.
func TestOrdersStayAsTheyAre(t *testing.T) {
	l := oneByOne(7)
	for _, first := range allOrders(7) {
		order, memory := roomyList(first, 7, -7)
		before := slices.Clone(memory)
		impl.IsLegal(l, order)
		impl.RespectsTime(l, order)
		if !slices.Equal(memory, before) {
			t.Fatal("written into the order:", first, memory)
		}
	}
}

func spoilCalls(l []impl.Call) {
	for i := range l[:cap(l)] {
		l[:cap(l)][i] = impl.Call{Client: -9, Object: -9, Value: -9}
	}
}

// What is done to an answer, up to the end of its memory, is not seen in an argument,
// nor in what is answered next.
func TestAnsweredCallsShareNoMemory(t *testing.T) {
	for why, first := range someCalls() {
		l, memory := roomyCalls(first)
		before := slices.Clone(memory)
		for range 2 {
			order, _ := impl.OrderFor(l)
			again, _ := impl.OrderFor(l)
			if listsShare(order, memory) {
				t.Error(why, "an order is shared with the calls")
			}
			wantOwnLists(t, why, nil, [][]int{order, again})
			fill(order)
			fill(again)
			for object := range 3 {
				on, _ := impl.OnObject(l, object)
				other, _ := impl.OnObject(l, object)
				if listsShare(on, memory) || listsShare(on, other) {
					t.Error(why, "calls are shared", object)
				}
				spoilCalls(on)
				spoilCalls(append(other, impl.Call{}))
			}
			wantCalls(t, why, l, nil, steps(3, 0, 1))
		}
		if !slices.Equal(memory, before) {
			t.Error("written into the calls:", why)
		}
	}
}

// Where all calls are on one object the answer is a list of its own, too.
func TestAllCallsOnOneObjectAreNewMemory(t *testing.T) {
	l := allAtOneTime()
	before := slices.Clone(l)
	on, ok := impl.OnObject(l, 0)
	if !ok || !slices.Equal(on, l) || listsShare(on, l) {
		t.Error(on, ok)
	}
	spoilCalls(on)
	if !slices.Equal(l, before) {
		t.Error("written into the calls", l)
	}
}

// What is refused hands out nothing, not even an empty list with memory of an argument
// behind it; nor does an order that there is not.
func TestRefusedCallsHandOutNothing(t *testing.T) {
	for why, first := range badCalls() {
		l, _ := roomyCalls(first)
		if order, ok := impl.OrderFor(l); ok || cap(order) != 0 {
			t.Error(why, order, ok)
		}
		for object := range 3 {
			if on, ok := impl.OnObject(l, object); ok || cap(on) != 0 {
				t.Error(why, on, ok)
			}
		}
	}
	for why, first := range someCalls() {
		l, memory := roomyCalls(first)
		if order, ok := impl.OrderFor(l); !ok && cap(order) != 0 {
			t.Error(why, order, ok)
		}
		for object := -1; object <= 3; object++ {
			on, ok := impl.OnObject(l, object)
			if !ok && cap(on) != 0 || len(on) == 0 && listsShare(on, memory) {
				t.Error(why, object, on, ok)
			}
		}
	}
}

// The last call tells nothing of those that were told ahead of it, nor does an answer
// of what was asked before.
func TestCallsAreAnsweredAlikeEachTime(t *testing.T) {
	for why, l := range someCalls() {
		order, found := impl.OrderFor(l)
		for other, x := range someCalls() {
			impl.IsLinear(x)
			impl.OrderFor(x)
			if again, ok := impl.OrderFor(l); ok != found || !slices.Equal(again, order) {
				t.Error(why, other, again, ok)
			}
		}
	}
}

package tests

import (
	"math/rand/v2"
	"slices"

	"loop.example/g00361/impl"
)

// What chapter 15 says, written once more in the plainest way: all orders there are
// are gone through, each is looked at as a whole, and a read looks back for the write
// that it sees.

func plainCallsGood(l []impl.Call) bool {
	for i, c := range l {
		if c.Client < 0 || c.Client > 3 || c.Object < 0 || c.Object > 2 {
			return false
		}
		if c.Value < 0 || c.Value > 9 || c.Write && c.Value == 0 {
			return false
		}
		if c.Begin < 0 || c.End > 100 || c.Begin >= c.End {
			return false
		}
		for k, x := range l {
			if i != k && c.Client == x.Client && !(c.End <= x.Begin || x.End <= c.Begin) {
				return false
			}
		}
		// More than so many are not good whatever they are: a list of very many is not
		// held against itself.
		if i == 7 {
			return false
		}
	}
	return true
}

func plainOrderGood(l []impl.Call, order []int) bool {
	for k := range l {
		many := 0
		for _, n := range order {
			if n == k {
				many++
			}
		}
		if many != 1 {
			return false
		}
	}
	return len(order) == len(l)
}

// seenAt is what a call at a place of an order finds at its object.
func seenAt(l []impl.Call, order []int, at int) int {
	for i := at - 1; i >= 0; i-- {
		if c := l[order[i]]; c.Write && c.Object == l[order[at]].Object {
			return c.Value
		}
	}
	return 0
}

func legalIn(l []impl.Call, order []int) bool {
	for at, k := range order {
		if !l[k].Write && l[k].Value != seenAt(l, order, at) {
			return false
		}
	}
	return true
}

func timelyIn(l []impl.Call, order []int) bool {
	for i := range order {
		for k := range i {
			if l[order[i]].End <= l[order[k]].Begin {
				return false
			}
		}
	}
	return true
}

func clientsCameIn(l []impl.Call, order []int) bool {
	for i := range order {
		for k := range i {
			a, b := l[order[k]], l[order[i]]
			if a.Client == b.Client && a.Begin > b.Begin {
				return false
			}
		}
	}
	return true
}

// risen makes an order the next one, number by number; the last one has none.
func risen(order []int) bool {
	at := len(order) - 2
	for at >= 0 && order[at] > order[at+1] {
		at--
	}
	if at < 0 {
		return false
	}
	k := len(order) - 1
	for order[k] < order[at] {
		k--
	}
	order[at], order[k] = order[k], order[at]
	slices.Reverse(order[at+1:])
	return true
}

// allOrders are all orders of so many calls, number by number.
func allOrders(many int) [][]int {
	order := steps(many, 0, 1)
	all := [][]int{slices.Clone(order)}
	for risen(order) {
		all = append(all, slices.Clone(order))
	}
	return all
}

// firstOrder is the least legal order of good calls in which this holds, too.
func firstOrder(l []impl.Call, holds func(l []impl.Call, order []int) bool) ([]int, bool) {
	order := steps(len(l), 0, 1)
	for {
		if holds(l, order) && legalIn(l, order) {
			return order, true
		}
		if !risen(order) {
			return nil, false
		}
	}
}

func plainLegal(l []impl.Call, order []int) (bool, bool) {
	if !plainCallsGood(l) || !plainOrderGood(l, order) {
		return false, false
	}
	return legalIn(l, order), true
}

func plainTimely(l []impl.Call, order []int) (bool, bool) {
	if !plainCallsGood(l) || !plainOrderGood(l, order) {
		return false, false
	}
	return timelyIn(l, order), true
}

func plainLinear(l []impl.Call) (bool, bool) {
	if !plainCallsGood(l) {
		return false, false
	}
	_, found := firstOrder(l, timelyIn)
	return found, true
}

func plainSequential(l []impl.Call) (bool, bool) {
	if !plainCallsGood(l) {
		return false, false
	}
	_, found := firstOrder(l, clientsCameIn)
	return found, true
}

func plainOrderFor(l []impl.Call) ([]int, bool) {
	if !plainCallsGood(l) {
		return nil, false
	}
	return firstOrder(l, timelyIn)
}

func plainOnObject(l []impl.Call, object int) ([]impl.Call, bool) {
	if !plainCallsGood(l) || object < 0 || object > 2 {
		return nil, false
	}
	return slices.DeleteFunc(slices.Clone(l), func(c impl.Call) bool { return c.Object != object }), true
}

// plainOverlaps counts each pair from both its sides.
func plainOverlaps(l []impl.Call) (int, bool) {
	if !plainCallsGood(l) {
		return 0, false
	}
	many := 0
	for i, a := range l {
		for k, b := range l {
			if i != k && a.Begin < b.End && b.Begin < a.End {
				many++
			}
		}
	}
	return many / 2, true
}

func writeOf(client, object, value, begin, end int) impl.Call {
	return impl.Call{Client: client, Object: object, Write: true, Value: value, Begin: begin, End: end}
}

func readOf(client, object, value, begin, end int) impl.Call {
	return impl.Call{Client: client, Object: object, Value: value, Begin: begin, End: end}
}

func calls(l ...impl.Call) []impl.Call {
	return l
}

// turnedAbout are the same calls, told the other way round.
func turnedAbout(l []impl.Call) []impl.Call {
	out := slices.Clone(l)
	slices.Reverse(out)
	return out
}

// randomSpans are good calls that all read 0, those of each client one behind the
// other, some right where the last one ended. Of a longer stretch fewer overlap, and
// some clients come when others are done.
func randomSpans(r *rand.Rand, many, clients, objects, stretch int) []impl.Call {
	ends := make([]int, clients)
	for k := range ends {
		ends[k] = r.IntN(1 + 5*stretch)
	}
	var l []impl.Call
	for range many {
		k := r.IntN(clients)
		begin := ends[k] + r.IntN(1+stretch)
		ends[k] = begin + 1 + r.IntN(4)
		l = append(l, readOf(k, r.IntN(objects), 0, begin, ends[k]))
	}
	return l
}

// momentsIn are a moment for each call, behind its Begin and ahead of its End.
func momentsIn(r *rand.Rand, l []impl.Call) []float64 {
	var moments []float64
	for _, c := range l {
		moments = append(moments, float64(c.Begin)+(0.01+0.98*r.Float64())*float64(c.End-c.Begin))
	}
	return moments
}

// orderBy is the order in which the moments come.
func orderBy(moments []float64) []int {
	order := steps(len(moments), 0, 1)
	slices.SortFunc(order, func(a, b int) int {
		if moments[a] < moments[b] {
			return -1
		}
		return 1
	})
	return order
}

// doneIn are the calls of these spans, some of them writes, where they were done in
// this order.
func doneIn(r *rand.Rand, spans []impl.Call, order []int) []impl.Call {
	l := slices.Clone(spans)
	for at, k := range order {
		l[k].Write = r.IntN(2) == 0
		l[k].Value = 1 + r.IntN(3)
		if !l[k].Write {
			l[k].Value = seenAt(l, order, at)
		}
	}
	return l
}

// randomCalls are good ones: some were done at one moment each, some in any order in
// which those of each client came; of some a value is another one then.
func randomCalls(r *rand.Rand, most int) []impl.Call {
	l := randomSpans(r, r.IntN(most+1), 1+r.IntN(4), 1+r.IntN(3), r.IntN(4))
	order := orderBy(momentsIn(r, l))
	if r.IntN(2) == 0 {
		order = steps(len(l), 0, 1)
	}
	l = doneIn(r, l, order)
	for range min(r.IntN(5)/2, len(l)) {
		k := r.IntN(len(l))
		if l[k].Value = r.IntN(4); l[k].Value == 0 {
			l[k].Write = false
		}
	}
	r.Shuffle(len(l), func(i, k int) { l[i], l[k] = l[k], l[i] })
	return l
}

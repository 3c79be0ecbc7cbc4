package tests

import (
	"fmt"
	"slices"
	"testing"

	"loop.example/g00361/impl"
)

// Chapter 15, function by function. That a history could be one after the other just
// if it could on each object stands in l15_local_test.go.

// wantOrder holds what is told of an order against what the plain words tell.
func wantOrder(t *testing.T, why string, l []impl.Call, order []int) {
	t.Helper()
	legal, wanted := plainLegal(l, order)
	if got, ok := impl.IsLegal(l, order); got != legal || ok != wanted {
		t.Errorf("%s: IsLegal %v %v: %v %v", why, l, order, got, ok)
	}
	timely, wanted := plainTimely(l, order)
	if got, ok := impl.RespectsTime(l, order); got != timely || ok != wanted {
		t.Errorf("%s: RespectsTime %v %v: %v %v", why, l, order, got, ok)
	}
}

// wantCalls does so of all answers of calls, with each of these orders and objects.
func wantCalls(t *testing.T, why string, l []impl.Call, orders [][]int, objects []int) {
	t.Helper()
	if got := impl.GoodCalls(l); got != plainCallsGood(l) {
		t.Errorf("%s: GoodCalls %v: %v", why, l, got)
	}
	linear, wanted := plainLinear(l)
	if got, ok := impl.IsLinear(l); got != linear || ok != wanted {
		t.Errorf("%s: IsLinear %v: %v %v", why, l, got, ok)
	}
	sequential, wanted := plainSequential(l)
	if got, ok := impl.IsSequential(l); got != sequential || ok != wanted {
		t.Errorf("%s: IsSequential %v: %v %v", why, l, got, ok)
	}
	order, wanted := plainOrderFor(l)
	if got, ok := impl.OrderFor(l); !slices.Equal(got, order) || ok != wanted {
		t.Errorf("%s: OrderFor %v: %v %v", why, l, got, ok)
	}
	overlaps, wanted := plainOverlaps(l)
	if got, ok := impl.OverlapsIn(l); got != overlaps || ok != wanted {
		t.Errorf("%s: OverlapsIn %v: %v %v", why, l, got, ok)
	}
	for _, object := range objects {
		on, wanted := plainOnObject(l, object)
		if got, ok := impl.OnObject(l, object); !slices.Equal(got, on) || ok != wanted {
			t.Errorf("%s: OnObject %v %d: %v %v", why, l, object, got, ok)
		}
	}
	for _, order := range orders {
		wantOrder(t, why, l, order)
	}
}

// wantSeen asks whether good calls are linear, and whether they are sequential.
func wantSeen(t *testing.T, why string, l []impl.Call, linear, sequential bool) {
	t.Helper()
	if got, ok := impl.IsLinear(l); got != linear || !ok {
		t.Errorf("%s: IsLinear %v: %v %v", why, l, got, ok)
	}
	if got, ok := impl.IsSequential(l); got != sequential || !ok {
		t.Errorf("%s: IsSequential %v: %v %v", why, l, got, ok)
	}
	if order, ok := impl.OrderFor(l); ok != linear || !ok && len(order) != 0 {
		t.Errorf("%s: OrderFor %v: %v %v", why, l, order, ok)
	}
	wantCalls(t, why, l, nil, steps(3, 0, 1))
}

func wantLegal(t *testing.T, why string, l []impl.Call, order []int, legal bool) {
	t.Helper()
	if got, ok := impl.IsLegal(l, order); got != legal || !ok {
		t.Errorf("%s: IsLegal %v %v: %v %v", why, l, order, got, ok)
	}
	wantOrder(t, why, l, order)
}

func wantTimely(t *testing.T, why string, l []impl.Call, order []int, timely bool) {
	t.Helper()
	if got, ok := impl.RespectsTime(l, order); got != timely || !ok {
		t.Errorf("%s: RespectsTime %v %v: %v %v", why, l, order, got, ok)
	}
	wantOrder(t, why, l, order)
}

func wantFirstOrder(t *testing.T, why string, l []impl.Call, order ...int) {
	t.Helper()
	if got, ok := impl.OrderFor(l); !slices.Equal(got, order) || !ok {
		t.Errorf("%s: OrderFor %v: %v %v", why, l, got, ok)
	}
	wantSeen(t, why, l, true, true)
}

func TestTheNamedNumbersOfCalls(t *testing.T) {
	if impl.MaxCalls != 7 || impl.MaxObjects != 3 {
		t.Error(impl.MaxCalls, impl.MaxObjects)
	}
}

// oneByOne are so many calls of one client, each where the last one ended.
func oneByOne(many int) []impl.Call {
	var l []impl.Call
	for i := range many {
		l = append(l, writeOf(0, i%3, 1+i, 10*i, 10*i+10))
	}
	return l
}

// allAtOneTime are calls of which each overlaps all others.
func allAtOneTime() []impl.Call {
	return calls(writeOf(0, 0, 1, 0, 9), writeOf(1, 0, 2, 0, 9), readOf(2, 0, 2, 0, 9), readOf(3, 0, 1, 0, 9))
}

// crossed are two clients that each write one object and read 0 of the other's then
// (Dekker): on each object they could be one after the other, where all are told no
// time, together they could not.
func crossed() []impl.Call {
	return calls(writeOf(0, 0, 1, 0, 1), readOf(0, 1, 0, 2, 3), writeOf(1, 1, 1, 0, 1), readOf(1, 0, 0, 2, 3))
}

// longAgo are a write and a read behind it that does not see it.
func longAgo() []impl.Call {
	return calls(writeOf(0, 0, 1, 0, 2), readOf(1, 0, 0, 3, 5))
}

// seenAndNotSeen are two reads of one client, of which the later one sees less.
func seenAndNotSeen() []impl.Call {
	return calls(writeOf(0, 0, 1, 0, 9), readOf(1, 0, 1, 1, 3), readOf(1, 0, 0, 4, 6))
}

func someCalls() map[string][]impl.Call {
	return map[string][]impl.Call{
		"none":                        nil,
		"a list of none":              {},
		"one write":                   calls(writeOf(0, 0, 1, 0, 1)),
		"one read of 0":               calls(readOf(0, 0, 0, 0, 1)),
		"one read of what is nowhere": calls(readOf(0, 0, 9, 0, 1)),
		"all at their most":           calls(writeOf(3, 2, 9, 99, 100)),
		"from the first to the last":  calls(readOf(3, 2, 9, 0, 100)),
		"as many as there may be":     oneByOne(7),
		"as many, the other way":      turnedAbout(oneByOne(7)),
		"all at one time":             allAtOneTime(),
		"as long as the other one":    calls(writeOf(0, 0, 1, 0, 9), readOf(1, 0, 0, 0, 9)),
		"in the other one":            calls(writeOf(0, 0, 1, 0, 9), readOf(1, 0, 1, 3, 4)),
		"that meet":                   calls(writeOf(0, 0, 1, 0, 5), readOf(0, 0, 1, 5, 9)),
		"that meet, the later first":  calls(readOf(0, 0, 1, 5, 9), writeOf(0, 0, 1, 0, 5)),
		"of two that meet":            calls(writeOf(0, 0, 1, 0, 5), readOf(1, 0, 0, 5, 9)),
		"long ago":                    longAgo(),
		"seen and not seen":           seenAndNotSeen(),
		"crossed":                     crossed(),
		"three objects": calls(readOf(2, 2, 3, 8, 9), writeOf(0, 0, 1, 0, 4), writeOf(1, 1, 2, 2, 6), writeOf(2, 2, 3, 1, 7),
			readOf(0, 1, 2, 4, 7), readOf(1, 0, 1, 6, 7), readOf(3, 0, 0, 0, 1)),
		"between two": calls(readOf(0, 0, 1, 10, 12), readOf(0, 0, 2, 2, 4), readOf(0, 0, 0, 6, 8)),
	}
}

// badCalls are not good, each by one thing.
func badCalls() map[string][]impl.Call {
	all := map[string][]impl.Call{
		"one too many":                append(oneByOne(7), writeOf(1, 0, 1, 0, 1)),
		"eight of one":                oneByOne(8),
		"too many, the other way":     turnedAbout(oneByOne(8)),
		"zero":                        calls(impl.Call{}),
		"two that overlap by one":     calls(writeOf(0, 0, 1, 0, 5), readOf(0, 0, 1, 4, 9)),
		"by one, the later first":     calls(readOf(0, 0, 1, 4, 9), writeOf(0, 0, 1, 0, 5)),
		"two on unlike objects":       calls(writeOf(1, 0, 1, 0, 5), writeOf(1, 2, 1, 4, 9)),
		"two at one time":             calls(readOf(2, 0, 0, 3, 7), readOf(2, 1, 0, 3, 7)),
		"one in the other one":        calls(writeOf(3, 0, 1, 0, 9), readOf(3, 0, 1, 3, 4)),
		"in the other one, first":     calls(readOf(3, 0, 1, 3, 4), writeOf(3, 0, 1, 0, 9)),
		"from one Begin":              calls(writeOf(0, 0, 1, 0, 9), readOf(0, 0, 1, 0, 4)),
		"to one End":                  calls(writeOf(0, 0, 1, 0, 9), readOf(0, 0, 1, 4, 9)),
		"far from each other":         calls(writeOf(0, 0, 1, 0, 9), readOf(1, 0, 1, 0, 9), readOf(2, 0, 1, 0, 9), readOf(3, 0, 1, 0, 9), readOf(1, 0, 1, 9, 10), readOf(0, 0, 1, 8, 20)),
		"the last two":                append(oneByOne(6), readOf(0, 0, 0, 59, 61)),
		"the last two of as many":     append(oneByOne(5), readOf(1, 0, 0, 0, 2), readOf(1, 1, 0, 1, 3)),
		"a bad one that overlaps":     calls(writeOf(0, 0, 1, 0, 5), readOf(0, 0, 10, 4, 9)),
		"a Begin behind, between two": calls(writeOf(0, 0, 1, 0, 5), writeOf(0, 0, 1, 8, 7), writeOf(0, 0, 1, 9, 10)),
	}
	for why, one := range badOnes() {
		all["alone: "+why] = calls(one)
		all["the last one: "+why] = calls(writeOf(1, 0, 1, 0, 5), readOf(2, 0, 0, 0, 9), one)
		all["the first one: "+why] = calls(one, writeOf(1, 0, 1, 0, 5), readOf(2, 0, 0, 0, 9))
	}
	return all
}

func badOnes() map[string]impl.Call {
	return map[string]impl.Call{
		"a Client of -1":             readOf(-1, 0, 0, 0, 1),
		"a Client of 4":              readOf(4, 0, 0, 0, 1),
		"an Object of -1":            readOf(0, -1, 0, 0, 1),
		"an Object of 3":             readOf(0, 3, 0, 0, 1),
		"a write to -1":              writeOf(0, -1, 1, 0, 1),
		"a write to 3":               writeOf(0, 3, 1, 0, 1),
		"a write of 0":               writeOf(0, 0, 0, 0, 1),
		"a write of -1":              writeOf(0, 0, -1, 0, 1),
		"a write of 10":              writeOf(0, 0, 10, 0, 1),
		"a read of -1":               readOf(0, 0, -1, 0, 1),
		"a read of 10":               readOf(0, 0, 10, 0, 1),
		"a Begin of -1":              readOf(0, 0, 0, -1, 1),
		"a Begin of -1, an End of 0": readOf(0, 0, 0, -1, 0),
		"a Begin at its End":         readOf(0, 0, 0, 5, 5),
		"a Begin at its End, both 0": readOf(0, 0, 0, 0, 0),
		"both at the last":           readOf(0, 0, 0, 100, 100),
		"a Begin behind its End":     readOf(0, 0, 0, 6, 5),
		"a Begin far behind":         readOf(0, 0, 0, 100, 0),
		"an End of 101":              readOf(0, 0, 0, 0, 101),
		"from 100 to 101":            readOf(0, 0, 0, 100, 101),
		"from 101 to 102":            readOf(0, 0, 0, 101, 102),
	}
}

func TestGoodCalls(t *testing.T) {
	for why, l := range someCalls() {
		if !impl.GoodCalls(l) || !impl.GoodCalls(turnedAbout(l)) {
			t.Error(why)
		}
		wantCalls(t, why, l, allOrders(min(len(l), 4)), steps(7, -2, 1))
		wantCalls(t, why, turnedAbout(l), allOrders(min(len(l), 4)), steps(7, -2, 1))
	}
}

func TestBadCalls(t *testing.T) {
	for why, l := range badCalls() {
		if impl.GoodCalls(l) || impl.GoodCalls(turnedAbout(l)) {
			t.Error(why)
		}
		order := steps(len(l), 0, 1)
		if is, ok := impl.IsLegal(l, order); is || ok {
			t.Error(why, is, ok)
		}
		if is, ok := impl.RespectsTime(l, order); is || ok {
			t.Error(why, is, ok)
		}
		if is, ok := impl.IsLinear(l); is || ok {
			t.Error(why, is, ok)
		}
		if is, ok := impl.IsSequential(l); is || ok {
			t.Error(why, is, ok)
		}
		if first, ok := impl.OrderFor(l); len(first) != 0 || ok {
			t.Error(why, first, ok)
		}
		if n, ok := impl.OverlapsIn(l); n != 0 || ok {
			t.Error(why, n, ok)
		}
		for object := range 3 {
			if on, ok := impl.OnObject(l, object); len(on) != 0 || ok {
				t.Error(why, on, ok)
			}
		}
		wantCalls(t, why, l, [][]int{nil, order}, steps(7, -2, 1))
	}
}

func TestEachNumberOfACall(t *testing.T) {
	want := func(c impl.Call, good bool) {
		t.Helper()
		for why, l := range map[string][]impl.Call{
			"alone": calls(c),
			"last":  calls(readOf((c.Client+1)&3, 0, 0, 0, 9), c),
			"first": calls(c, readOf((c.Client+1)&3, 0, 0, 0, 9)),
		} {
			if impl.GoodCalls(l) != good {
				t.Error(why, c, good)
			}
		}
	}
	for n := -3; n <= 13; n++ {
		want(readOf(n, 0, 0, 0, 1), n >= 0 && n <= 3)
		want(writeOf(n, 0, 1, 0, 1), n >= 0 && n <= 3)
		want(readOf(0, n, 0, 0, 1), n >= 0 && n <= 2)
		want(writeOf(0, n, 1, 0, 1), n >= 0 && n <= 2)
		want(readOf(0, 0, n, 0, 1), n >= 0 && n <= 9)
		want(writeOf(0, 0, n, 0, 1), n >= 1 && n <= 9)
	}
	for begin := -2; begin <= 103; begin++ {
		for end := -2; end <= 103; end++ {
			want(readOf(0, 0, 0, begin, end), begin >= 0 && begin < end && end <= 100)
		}
	}
	for many := range 12 {
		if impl.GoodCalls(oneByOne(many)) != (many <= 7) {
			t.Error(many)
		}
	}
}

// Two calls, in either order: of one client they must not overlap, of two they may.
func TestTwoCallsThatOverlap(t *testing.T) {
	for a := range 6 {
		for b := a + 1; b < 7; b++ {
			for c := range 6 {
				for d := c + 1; d < 7; d++ {
					one := calls(readOf(1, 0, 0, a, b), readOf(1, 1, 0, c, d))
					apart := b <= c || d <= a
					if impl.GoodCalls(one) != apart {
						t.Error("of one client", one)
					}
					two := calls(readOf(1, 0, 0, a, b), readOf(2, 1, 0, c, d))
					n, ok := impl.OverlapsIn(two)
					if !impl.GoodCalls(two) || !ok || (n == 0) != apart || n > 1 {
						t.Error("of two clients", two, n, ok)
					}
				}
			}
		}
	}
}

// badOrders are not orders of so many calls, each by one thing.
func badOrders(many int) map[string][]int {
	all := map[string][]int{
		"one too many":            steps(many+1, 0, 1),
		"below 0, one too many":   append(steps(many, 0, 1), -1),
		"one more, there already": append(steps(many, 0, 1), 0),
		"very many":               make([]int, 1<<16),
	}
	if many == 0 {
		return all
	}
	all["none"] = nil
	all["a list of none"] = []int{}
	all["without the last one"] = steps(many-1, 0, 1)
	all["without the first one"] = steps(many-1, 1, 1)
	all["from 1 on"] = steps(many, 1, 1)
	all["from -1 on"] = steps(many, -1, 1)
	for at := range many {
		for _, n := range []int{-1, many, many + 1, 64, (at + 1) % (many + 1)} {
			l := steps(many, 0, 1)
			l[at] = n
			all[fmt.Sprint("at ", at, " stands ", n)] = l
		}
	}
	return all
}

func TestOrdersOfCalls(t *testing.T) {
	for why, l := range someCalls() {
		for _, order := range [][]int{steps(len(l), 0, 1), steps(len(l), len(l)-1, -1)} {
			if _, ok := impl.IsLegal(l, order); !ok {
				t.Error(why, order)
			}
			if _, ok := impl.RespectsTime(l, order); !ok {
				t.Error(why, order)
			}
		}
		for bad, order := range badOrders(len(l)) {
			if is, ok := impl.IsLegal(l, order); is || ok {
				t.Error(why, bad, is, ok)
			}
			if is, ok := impl.RespectsTime(l, order); is || ok {
				t.Error(why, bad, is, ok)
			}
			wantOrder(t, why+", "+bad, l, order)
		}
	}
}

func TestAllOrdersOfManyCalls(t *testing.T) {
	for why, l := range someCalls() {
		for _, order := range allOrders(len(l)) {
			wantOrder(t, why, l, order)
		}
	}
}

// All lists of numbers, those that are orders and those that are not.
func TestAllListsAsOrders(t *testing.T) {
	l := seenAndNotSeen()
	for long := range 5 {
		good := 0
		for _, order := range allClocks(long, -1, 0, 1, 2, 3) {
			if _, ok := impl.IsLegal(l, order); ok {
				good++
			}
			wantOrder(t, "all", l, order)
		}
		if want := map[int]int{3: 6}[long]; good != want {
			t.Error(long, good)
		}
	}
}

func TestNoCallsHaveAnOrder(t *testing.T) {
	for _, l := range [][]impl.Call{nil, {}} {
		for _, order := range [][]int{nil, {}} {
			wantLegal(t, "none", l, order, true)
			wantTimely(t, "none", l, order, true)
		}
		wantFirstOrder(t, "none", l)
		if n, ok := impl.OverlapsIn(l); n != 0 || !ok {
			t.Error(n, ok)
		}
		for object := range 3 {
			if on, ok := impl.OnObject(l, object); len(on) != 0 || !ok {
				t.Error(object, on, ok)
			}
		}
	}
}

func TestIsLegal(t *testing.T) {
	wantLegal(t, "ahead of the first write, of 0", calls(readOf(0, 0, 0, 0, 1), writeOf(0, 0, 1, 1, 2)), []int{0, 1}, true)
	wantLegal(t, "ahead of the first write, of it", calls(readOf(0, 0, 1, 0, 1), writeOf(0, 0, 1, 1, 2)), []int{0, 1}, false)
	wantLegal(t, "no write at all", calls(readOf(0, 0, 0, 0, 1), readOf(0, 1, 0, 1, 2)), []int{1, 0}, true)
	wantLegal(t, "no write at all, of 1", calls(readOf(0, 0, 0, 0, 1), readOf(0, 1, 1, 1, 2)), []int{1, 0}, false)
	one := calls(writeOf(0, 0, 4, 0, 1), readOf(0, 0, 4, 1, 2))
	wantLegal(t, "behind one", one, []int{0, 1}, true)
	wantLegal(t, "behind one, ahead of it in the order", one, []int{1, 0}, false)
	wantLegal(t, "behind one, of 0", calls(writeOf(0, 0, 4, 0, 1), readOf(0, 0, 0, 1, 2)), []int{0, 1}, false)
	wantLegal(t, "behind one, of none's", calls(writeOf(0, 0, 4, 0, 1), readOf(0, 0, 5, 1, 2)), []int{0, 1}, false)
	two := calls(writeOf(0, 0, 4, 0, 1), writeOf(0, 0, 5, 1, 2), readOf(0, 0, 5, 2, 3))
	wantLegal(t, "behind two, of the last one", two, []int{0, 1, 2}, true)
	wantLegal(t, "behind two, of the one ahead", two, []int{1, 0, 2}, false)
	wantLegal(t, "between two, of the first one", two, []int{1, 2, 0}, true)
	wantLegal(t, "between two, of the one behind", two, []int{0, 2, 1}, false)
	wantLegal(t, "ahead of two", two, []int{2, 0, 1}, false)
	wantLegal(t, "writes alone", oneByOne(7), []int{6, 0, 5, 1, 4, 2, 3}, true)
	wantLegal(t, "twice the same", calls(writeOf(0, 0, 4, 0, 1), readOf(1, 0, 4, 0, 1), writeOf(2, 0, 4, 0, 1), readOf(3, 0, 4, 0, 1)), []int{2, 1, 3, 0}, true)
	wantLegal(t, "seen, not seen, seen again", calls(writeOf(0, 0, 4, 0, 1), readOf(1, 0, 4, 0, 1), readOf(2, 0, 0, 0, 1), readOf(3, 0, 4, 0, 1)), []int{0, 1, 2, 3}, false)
}

func TestIsLegalOnUnlikeObjects(t *testing.T) {
	other := calls(writeOf(0, 0, 4, 0, 1), readOf(0, 1, 4, 1, 2))
	wantLegal(t, "another object's value", other, []int{0, 1}, false)
	wantLegal(t, "another object's value, ahead of it", other, []int{1, 0}, false)
	untouched := calls(writeOf(0, 0, 4, 0, 1), readOf(0, 1, 0, 1, 2))
	wantLegal(t, "0 of what is not written", untouched, []int{0, 1}, true)
	mixed := calls(writeOf(0, 0, 4, 0, 1), writeOf(1, 1, 5, 0, 1), readOf(2, 0, 4, 0, 1), readOf(3, 1, 5, 0, 1))
	wantLegal(t, "two that are mixed", mixed, []int{0, 1, 2, 3}, true)
	wantLegal(t, "two that are mixed, crosswise", mixed, []int{0, 1, 3, 2}, true)
	wantLegal(t, "two that are mixed, one by one", mixed, []int{1, 3, 0, 2}, true)
	wantLegal(t, "two that are mixed, one too early", mixed, []int{0, 3, 1, 2}, false)
	wantLegal(t, "two that are mixed, the other one too early", mixed, []int{1, 2, 0, 3}, false)
	for object := range 3 {
		for read := range 3 {
			l := calls(writeOf(0, object, 7, 0, 1), readOf(1, read, 7, 0, 1))
			wantLegal(t, "each two", l, []int{0, 1}, object == read)
			wantLegal(t, "each two", l, []int{1, 0}, false)
		}
	}
}

// Legal is what the order tells, whatever the time and the clients do.
func TestIsLegalDoesNotAskTheTime(t *testing.T) {
	l := calls(readOf(0, 0, 3, 0, 1), writeOf(0, 0, 3, 50, 51))
	wantLegal(t, "a read of what is not written yet", l, []int{1, 0}, true)
	wantTimely(t, "a read of what is not written yet", l, []int{1, 0}, false)
	wantSeen(t, "a read of what is not written yet", l, false, false)
}

func TestRespectsTime(t *testing.T) {
	for _, c := range []struct {
		why    string
		begin  int
		timely bool
	}{
		{"the End is at the other's Begin", 5, false},
		{"the End is below it", 6, false},
		{"the End is far below it", 60, false},
		{"the End is above it", 4, true},
		{"the Begin is the other's", 2, true},
		{"the Begin is ahead of the other's", 1, true},
	} {
		l := calls(writeOf(0, 0, 1, 2, 5), writeOf(1, 0, 2, c.begin, 100))
		wantTimely(t, c.why, l, []int{0, 1}, true)
		wantTimely(t, c.why, l, []int{1, 0}, c.timely)
		wantTimely(t, c.why+", told the other way", turnedAbout(l), []int{1, 0}, true)
		wantTimely(t, c.why+", told the other way", turnedAbout(l), []int{0, 1}, c.timely)
	}
	one := calls(readOf(0, 0, 0, 0, 5), readOf(0, 0, 0, 5, 9))
	wantTimely(t, "of one client", one, []int{0, 1}, true)
	wantTimely(t, "of one client", one, []int{1, 0}, false)
	wantTimely(t, "of unlike objects", calls(readOf(0, 0, 0, 0, 5), readOf(1, 2, 0, 5, 9)), []int{1, 0}, false)
}

// One that is over stands far ahead or far behind, those between overlap both.
func TestRespectsTimeOfCallsFarFromEachOther(t *testing.T) {
	l := calls(readOf(0, 0, 0, 0, 5), readOf(1, 0, 0, 1, 50), readOf(2, 1, 0, 2, 60), readOf(3, 2, 0, 3, 70), readOf(0, 0, 0, 6, 80))
	wantTimely(t, "the first one first", l, []int{0, 3, 1, 2, 4}, true)
	wantTimely(t, "the last one first", l, []int{4, 1, 2, 3, 0}, false)
	wantTimely(t, "one between", l, []int{1, 4, 2, 0, 3}, false)
	wantTimely(t, "right ahead", l, []int{1, 2, 3, 4, 0}, false)
	wantTimely(t, "right behind", l, []int{1, 2, 3, 0, 4}, true)
	for _, order := range allOrders(5) {
		wantTimely(t, "all orders", l, order, slices.Index(order, 0) < slices.Index(order, 4))
	}
	for _, order := range allOrders(7) {
		wantTimely(t, "one by one", oneByOne(7), order, slices.IsSorted(order))
	}
}

// What respects time may be illegal.
func TestRespectsTimeDoesNotAskTheValues(t *testing.T) {
	l := longAgo()
	wantTimely(t, "long ago", l, []int{0, 1}, true)
	wantLegal(t, "long ago", l, []int{0, 1}, false)
	wantTimely(t, "long ago", l, []int{1, 0}, false)
	wantLegal(t, "long ago", l, []int{1, 0}, true)
}

func TestLinearCalls(t *testing.T) {
	for why, l := range map[string][]impl.Call{
		"a write":                     calls(writeOf(0, 0, 1, 0, 1)),
		"a read of 0":                 calls(readOf(0, 0, 0, 0, 1)),
		"a write and a read of it":    calls(writeOf(0, 0, 1, 0, 1), readOf(0, 0, 1, 1, 2)),
		"one that overlaps sees it":   calls(writeOf(0, 0, 1, 0, 9), readOf(1, 0, 1, 0, 9)),
		"one that overlaps does not":  calls(writeOf(0, 0, 1, 0, 9), readOf(1, 0, 0, 0, 9)),
		"it began ahead, and sees it": calls(writeOf(0, 0, 1, 5, 9), readOf(1, 0, 1, 0, 6)),
		"it ends behind, and is not":  calls(writeOf(0, 0, 1, 0, 6), readOf(1, 0, 0, 5, 9)),
		"all at one time":             allAtOneTime(),
		"as many as there may be":     oneByOne(7),
		"told the other way":          turnedAbout(oneByOne(7)),
		"not seen, then seen":         calls(writeOf(0, 0, 1, 0, 9), readOf(1, 0, 0, 1, 3), readOf(1, 0, 1, 3, 6)),
		"seen between two":            calls(writeOf(0, 0, 1, 0, 9), writeOf(1, 0, 2, 0, 9), readOf(2, 0, 1, 0, 3), readOf(2, 0, 2, 3, 6)),
		"the other way between":       calls(writeOf(0, 0, 1, 0, 9), writeOf(1, 0, 2, 0, 9), readOf(2, 0, 2, 0, 3), readOf(2, 0, 1, 3, 6)),
		"crossed, all at one time":    calls(writeOf(0, 0, 1, 0, 1), readOf(0, 1, 0, 1, 9), writeOf(1, 1, 1, 1, 9)),
		"three objects":               someCalls()["three objects"],
	} {
		wantSeen(t, why, l, true, true)
		wantSeen(t, why+", turned about", turnedAbout(l), true, true)
	}
}

func TestCallsThatAreSequentialAlone(t *testing.T) {
	for why, l := range map[string][]impl.Call{
		"long ago":               longAgo(),
		"they meet":              calls(writeOf(0, 0, 1, 0, 2), readOf(1, 0, 0, 2, 5)),
		"not written yet":        calls(readOf(0, 0, 1, 0, 2), writeOf(1, 0, 1, 2, 5)),
		"the elder one of two":   calls(writeOf(0, 0, 1, 0, 2), writeOf(0, 0, 2, 2, 4), readOf(1, 0, 1, 5, 6)),
		"seen by another first":  calls(writeOf(0, 0, 1, 0, 9), readOf(1, 0, 1, 1, 3), readOf(2, 0, 0, 4, 6)),
		"two that see it turned": calls(writeOf(0, 0, 1, 0, 9), writeOf(1, 0, 2, 0, 9), readOf(2, 0, 1, 10, 11), readOf(3, 0, 2, 12, 13), readOf(2, 0, 2, 14, 15)),
		"on the last object":     calls(writeOf(3, 2, 9, 98, 99), readOf(2, 2, 0, 99, 100)),
		"as many":                append(oneByOne(6), readOf(1, 0, 1, 60, 61)),
		"a long stale read":      calls(writeOf(0, 1, 1, 0, 1), writeOf(0, 1, 2, 2, 3), readOf(1, 1, 1, 3, 90)),
	} {
		wantSeen(t, why, l, false, true)
		wantSeen(t, why+", turned about", turnedAbout(l), false, true)
	}
}

func TestCallsThatAreNeither(t *testing.T) {
	for why, l := range map[string][]impl.Call{
		"a value of none's":        calls(readOf(0, 0, 1, 0, 1)),
		"its own is not seen":      calls(writeOf(0, 0, 1, 0, 1), readOf(0, 0, 0, 1, 2)),
		"its own, ahead of it":     calls(readOf(0, 0, 1, 0, 1), writeOf(0, 0, 1, 1, 2)),
		"seen, then not":           calls(writeOf(0, 0, 1, 0, 9), readOf(1, 0, 1, 1, 3), readOf(1, 0, 0, 4, 6)),
		"seen, then not, they met": calls(writeOf(0, 0, 1, 0, 9), readOf(1, 0, 1, 1, 3), readOf(1, 0, 0, 3, 6)),
		"back to the elder one":    calls(writeOf(0, 0, 1, 0, 2), writeOf(0, 0, 2, 2, 4), readOf(1, 0, 2, 0, 5), readOf(1, 0, 1, 5, 6)),
		"two see two turned": calls(writeOf(0, 0, 1, 0, 9), writeOf(1, 0, 2, 0, 9), readOf(2, 0, 1, 0, 3), readOf(2, 0, 2, 3, 6),
			readOf(3, 0, 2, 0, 3), readOf(3, 0, 1, 3, 6)),
		"another object's":      calls(writeOf(0, 0, 1, 0, 1), readOf(1, 1, 1, 0, 1)),
		"crossed":               crossed(),
		"one write, two values": calls(writeOf(0, 0, 1, 0, 9), readOf(1, 0, 1, 0, 9), readOf(2, 0, 2, 0, 9)),
		"the last one of seven": append(oneByOne(6), readOf(0, 0, 1, 60, 61)),
	} {
		wantSeen(t, why, l, false, false)
		wantSeen(t, why+", turned about", turnedAbout(l), false, false)
	}
}

// Those of a client come by their Begin, however the list tells them.
func TestClientsCameByTheirBegin(t *testing.T) {
	came := calls(writeOf(0, 0, 1, 0, 1), writeOf(0, 0, 2, 1, 2), readOf(0, 0, 2, 2, 3))
	for _, order := range allOrders(3) {
		wantSeen(t, "the last one is seen", calls(came[order[0]], came[order[1]], came[order[2]]), true, true)
	}
	came[2].Value = 1
	for _, order := range allOrders(3) {
		wantSeen(t, "the first one is seen", calls(came[order[0]], came[order[1]], came[order[2]]), false, false)
	}
	came[2].Client = 3
	for _, order := range allOrders(3) {
		wantSeen(t, "by another one", calls(came[order[0]], came[order[1]], came[order[2]]), false, true)
	}
}

func TestOrderFor(t *testing.T) {
	free := calls(writeOf(0, 0, 1, 0, 9), writeOf(1, 0, 2, 0, 9), writeOf(2, 0, 3, 0, 9))
	wantFirstOrder(t, "each would do", free, 0, 1, 2)
	wantFirstOrder(t, "the last one is seen", append(slices.Clone(free), readOf(3, 0, 3, 9, 10)), 0, 1, 2, 3)
	wantFirstOrder(t, "the one between is seen", append(slices.Clone(free), readOf(3, 0, 2, 9, 10)), 0, 2, 1, 3)
	wantFirstOrder(t, "the first one is seen", append(slices.Clone(free), readOf(3, 0, 1, 9, 10)), 1, 2, 0, 3)
	wantFirstOrder(t, "seen, while all go on", append(slices.Clone(free), readOf(3, 0, 1, 0, 10)), 0, 3, 1, 2)
	wantFirstOrder(t, "nothing seen, while all go on", append(slices.Clone(free), readOf(3, 0, 0, 0, 10)), 3, 0, 1, 2)
	wantFirstOrder(t, "one is over", calls(writeOf(0, 0, 1, 5, 9), writeOf(1, 0, 2, 0, 5), writeOf(2, 0, 3, 0, 9)), 1, 0, 2)
	wantFirstOrder(t, "reads ahead of the one that they see", calls(readOf(0, 0, 1, 0, 9), readOf(1, 0, 1, 0, 9), writeOf(2, 0, 1, 0, 9)), 2, 0, 1)
	wantFirstOrder(t, "all at one time", allAtOneTime(), 0, 3, 1, 2)
	wantFirstOrder(t, "one write", calls(writeOf(0, 0, 1, 0, 1)), 0)
	wantFirstOrder(t, "as many as there may be", oneByOne(7), 0, 1, 2, 3, 4, 5, 6)
	wantFirstOrder(t, "as many, the other way", turnedAbout(oneByOne(7)), 6, 5, 4, 3, 2, 1, 0)
	wantFirstOrder(t, "as many at one time", append(allAtOneTime(), readOf(0, 0, 2, 9, 20), writeOf(1, 1, 7, 9, 20), readOf(2, 1, 7, 9, 20)), 0, 3, 1, 2, 4, 5, 6)
	wantFirstOrder(t, "as many, the first one last", calls(readOf(0, 2, 6, 50, 60), readOf(0, 2, 5, 20, 50), writeOf(1, 2, 6, 10, 55), writeOf(2, 2, 5, 10, 55),
		readOf(3, 2, 0, 10, 15), writeOf(3, 0, 1, 0, 10), readOf(1, 0, 0, 0, 10)), 6, 5, 4, 3, 1, 2, 0)
}

// Legal and timely, and each one that is less is not both.
func TestOrderForIsTheLeastOne(t *testing.T) {
	for why, l := range someCalls() {
		for _, l := range [][]impl.Call{l, turnedAbout(l)} {
			order, found := impl.OrderFor(l)
			for _, other := range allOrders(len(l)) {
				legal, _ := impl.IsLegal(l, other)
				timely, _ := impl.RespectsTime(l, other)
				if both := legal && timely; both && !found || both && slices.Compare(other, order) < 0 || slices.Equal(other, order) && found && !both {
					t.Error(why, l, order, found, other, legal, timely)
				}
			}
		}
	}
}

func TestOrderForThatThereIsNot(t *testing.T) {
	for why, l := range map[string][]impl.Call{
		"long ago":           longAgo(),
		"seen and not seen":  seenAndNotSeen(),
		"crossed":            crossed(),
		"a value of none's":  calls(readOf(0, 0, 1, 0, 1)),
		"as many, one stale": append(oneByOne(6), readOf(1, 0, 1, 60, 61)),
		"all at one time":    append(allAtOneTime(), readOf(0, 0, 1, 9, 10), readOf(1, 0, 2, 10, 11)),
	} {
		if order, ok := impl.OrderFor(l); len(order) != 0 || ok {
			t.Error(why, order, ok)
		}
		if linear, ok := impl.IsLinear(l); linear || !ok {
			t.Error(why, linear, ok)
		}
		wantCalls(t, why, l, nil, nil)
	}
}

func TestOnObject(t *testing.T) {
	l := calls(readOf(2, 2, 3, 8, 9), writeOf(0, 0, 1, 0, 4), readOf(0, 0, 0, 4, 5), writeOf(2, 2, 3, 1, 7), readOf(1, 0, 1, 6, 7), readOf(3, 0, 0, 0, 1))
	for object, want := range [][]impl.Call{calls(l[1], l[2], l[4], l[5]), nil, calls(l[0], l[3])} {
		if got, ok := impl.OnObject(l, object); !slices.Equal(got, want) || !ok {
			t.Error(object, got, ok)
		}
		if got, ok := impl.OnObject(turnedAbout(l), object); !slices.Equal(got, turnedAbout(want)) || !ok {
			t.Error("turned about", object, got, ok)
		}
	}
	for _, object := range []int{-2, -1, 3, 4, 64} {
		if got, ok := impl.OnObject(l, object); len(got) != 0 || ok {
			t.Error(object, got, ok)
		}
		if got, ok := impl.OnObject(nil, object); len(got) != 0 || ok {
			t.Error("no calls", object, got, ok)
		}
	}
	for many := range 8 {
		for object := range 3 {
			got, ok := impl.OnObject(oneByOne(many), object)
			if !ok || len(got) != (many+2-object)/3 {
				t.Error(many, object, got, ok)
			}
		}
	}
}

func wantOverlaps(t *testing.T, why string, l []impl.Call, many int) {
	t.Helper()
	for _, l := range [][]impl.Call{l, turnedAbout(l)} {
		if n, ok := impl.OverlapsIn(l); n != many || !ok {
			t.Errorf("%s: OverlapsIn %v: %v %v", why, l, n, ok)
		}
		wantCalls(t, why, l, nil, nil)
	}
}

func TestOverlapsIn(t *testing.T) {
	wantOverlaps(t, "none", nil, 0)
	wantOverlaps(t, "one", calls(readOf(0, 0, 0, 0, 100)), 0)
	wantOverlaps(t, "of two that meet", calls(readOf(0, 0, 0, 0, 5), readOf(1, 0, 0, 5, 9)), 0)
	wantOverlaps(t, "of one that meet", calls(readOf(0, 0, 0, 0, 5), readOf(0, 0, 0, 5, 9)), 0)
	wantOverlaps(t, "far from each other", calls(readOf(0, 0, 0, 0, 5), readOf(1, 0, 0, 6, 9)), 0)
	wantOverlaps(t, "by one", calls(readOf(0, 0, 0, 0, 5), readOf(1, 0, 0, 4, 9)), 1)
	wantOverlaps(t, "on unlike objects", calls(readOf(0, 0, 0, 0, 5), readOf(1, 2, 0, 4, 9)), 1)
	wantOverlaps(t, "alike", calls(readOf(0, 0, 0, 4, 5), readOf(1, 0, 0, 4, 5)), 1)
	wantOverlaps(t, "one in the other one", calls(readOf(0, 0, 0, 0, 9), readOf(1, 0, 0, 4, 5)), 1)
	wantOverlaps(t, "all at one time", allAtOneTime(), 6)
	wantOverlaps(t, "three at one time", allAtOneTime()[1:], 3)
	wantOverlaps(t, "one over all of another's", calls(readOf(0, 0, 0, 0, 50), readOf(1, 0, 0, 0, 9), readOf(1, 0, 0, 9, 20), readOf(1, 0, 0, 20, 50), readOf(1, 0, 0, 50, 60)), 3)
	wantOverlaps(t, "in a row", calls(readOf(0, 0, 0, 0, 5), readOf(1, 0, 0, 4, 9), readOf(2, 0, 0, 8, 12), readOf(3, 0, 0, 11, 15)), 3)
	wantOverlaps(t, "one by one", oneByOne(7), 0)
	wantOverlaps(t, "as many", append(allAtOneTime(), readOf(0, 0, 0, 9, 20), readOf(1, 0, 0, 9, 20), readOf(2, 0, 0, 9, 20)), 9)
}

// fewCalls are all calls of two clients on so many objects with few values, from one
// of the first moments to another one.
func fewCalls(objects, mostValue, lastMoment int) []impl.Call {
	var l []impl.Call
	for client := range 2 {
		for object := range objects {
			for begin := range lastMoment {
				for end := begin + 1; end <= lastMoment; end++ {
					for value := range mostValue + 1 {
						l = append(l, readOf(client, object, value, begin, end))
						if value > 0 {
							l = append(l, writeOf(client, object, value, begin, end))
						}
					}
				}
			}
		}
	}
	return l
}

func TestAllTwoCalls(t *testing.T) {
	all := fewCalls(2, 2, 4)
	for _, a := range all {
		for _, b := range all {
			wantCalls(t, "two", calls(a, b), [][]int{{0, 1}, {1, 0}}, []int{0, 1, 2})
		}
	}
}

func TestAllThreeCallsOnOneObject(t *testing.T) {
	all := fewCalls(1, 1, 3)
	good, linear, sequential := 0, 0, 0
	for _, a := range all {
		for _, b := range all {
			for _, c := range all {
				l := calls(a, b, c)
				wantCalls(t, "three", l, nil, nil)
				if is, ok := impl.IsSequential(l); ok {
					good++
					lin, _ := impl.IsLinear(l)
					if is {
						sequential++
					}
					if lin {
						linear++
					}
				}
			}
		}
	}
	if linear == 0 || linear == sequential || sequential == good {
		t.Error("one kind of histories alone", linear, sequential, good)
	}
}

func TestManyCalls(t *testing.T) {
	r := newRandom()
	linear, sequential := 0, 0
	for range 4000 {
		l := randomCalls(r, 7)
		if !impl.GoodCalls(l) {
			t.Fatal(l)
		}
		wantCalls(t, "random", l, [][]int{r.Perm(len(l)), r.Perm(len(l)), orderBy(momentsIn(r, l))}, steps(5, -1, 1))
		lin, _ := impl.IsLinear(l)
		seq, _ := impl.IsSequential(l)
		if lin {
			linear++
		}
		if seq {
			sequential++
		}
		if lin && !seq {
			t.Error("linear, but not sequential", l)
		}
	}
	if linear < 1000 || sequential < linear+200 || sequential > 3600 {
		t.Error("one kind of histories alone", linear, sequential)
	}
}

package tests

import (
	"slices"
	"testing"

	"loop.example/g00361/impl"
)

// Promise 15: a history could be one after the other just if it could on each object.

// linearOn tells on which objects a history could be one after the other.
func linearOn(t *testing.T, l []impl.Call) []bool {
	t.Helper()
	var on []bool
	many := 0
	for object := range impl.MaxObjects {
		part, ok := impl.OnObject(l, object)
		linear, also := impl.IsLinear(part)
		if !ok || !also {
			t.Fatal("not good on an object", l, object, part)
		}
		many += len(part)
		on = append(on, linear)
	}
	if many != len(l) {
		t.Error("the objects together have other calls", l)
	}
	return on
}

// wantLocal asks that a history is linear just where it is so on each object, and
// tells which.
func wantLocal(t *testing.T, l []impl.Call) (bool, []bool) {
	t.Helper()
	linear, ok := impl.IsLinear(l)
	on := linearOn(t, l)
	if !ok || linear == slices.Contains(on, false) {
		t.Error("whole and on each object", l, linear, ok, on)
	}
	return linear, on
}

// wantOrderOnEach asks of the order of a linear history that what is left of it on an
// object is one for that object.
func wantOrderOnEach(t *testing.T, l []impl.Call) {
	t.Helper()
	order, found := impl.OrderFor(l)
	for object := range impl.MaxObjects {
		part, _ := impl.OnObject(l, object)
		var own []int
		for _, k := range order {
			if l[k].Object == object {
				on, _ := impl.OnObject(l[:k], object)
				own = append(own, len(on))
			}
		}
		legal, ok := impl.IsLegal(part, own)
		timely, also := impl.RespectsTime(part, own)
		if found && (!legal || !timely || !ok || !also) {
			t.Error("no order on an object", l, order, object, own)
		}
	}
}

// tally counts histories of each kind, so that a test that saw one kind alone is
// told.
type tally struct {
	linear, broken, brokenOnOne, brokenOnMore int
}

func (y *tally) add(linear bool, on []bool) {
	switch broken := len(slices.DeleteFunc(slices.Clone(on), func(is bool) bool { return is })); {
	case linear:
		y.linear++
	case broken == 1:
		y.broken, y.brokenOnOne = y.broken+1, y.brokenOnOne+1
	default:
		y.broken, y.brokenOnMore = y.broken+1, y.brokenOnMore+1
	}
}

func (y *tally) wantEach(t *testing.T, least int) {
	t.Helper()
	if y.linear < least || y.brokenOnOne < least || y.brokenOnMore < least {
		t.Error("one kind of histories alone", *y)
	}
}

func TestAllFewCallsAreLinearJustOnEachObject(t *testing.T) {
	for _, c := range []struct{ moments, many int }{{4, 2}, {3, 3}, {2, 4}} {
		all := fewCalls(2, 1, c.moments)
		var seen tally
		var add func(l []impl.Call, from int)
		add = func(l []impl.Call, from int) {
			if !impl.GoodCalls(l) {
				return
			}
			if len(l) == c.many {
				seen.add(wantLocal(t, l))
				return
			}
			for i := from; i < len(all); i++ {
				add(append(slices.Clone(l), all[i]), i)
			}
		}
		add(nil, 0)
		seen.wantEach(t, 100)
	}
}

func TestManyCallsAreLinearJustOnEachObject(t *testing.T) {
	r := newRandom()
	var seen tally
	for range 30000 {
		l := randomCalls(r, 7)
		seen.add(wantLocal(t, l))
		wantOrderOnEach(t, l)
	}
	seen.wantEach(t, 300)
}

// What was done at one moment each is linear, as a whole and on each object, whatever
// the moments are; no order that is told is behind that of the moments.
func TestWhatWasDoneAtOneMomentEachIsLinear(t *testing.T) {
	r := newRandom()
	for i := range 10000 {
		spans := randomSpans(r, i%8, 1+r.IntN(4), 1+r.IntN(3), r.IntN(3))
		r.Shuffle(len(spans), func(i, k int) { spans[i], spans[k] = spans[k], spans[i] })
		order := orderBy(momentsIn(r, spans))
		l := doneIn(r, spans, order)
		if linear, on := wantLocal(t, l); !linear || slices.Contains(on, false) {
			t.Error("not linear", l, order, on)
		}
		wantLegal(t, "by moments", l, order, true)
		wantTimely(t, "by moments", l, order, true)
		if first, ok := impl.OrderFor(l); !ok || slices.Compare(first, order) > 0 {
			t.Error("not the least order", l, order, first, ok)
		}
		if sequential, ok := impl.IsSequential(l); !sequential || !ok {
			t.Error("linear, but not sequential", l)
		}
		wantOrderOnEach(t, l)
	}
}

// The calls of three objects may be broken on each of them for itself.
func TestWhatIsBrokenOnOneObjectIsBroken(t *testing.T) {
	whole := []func(object int) []impl.Call{
		func(object int) []impl.Call {
			return calls(writeOf(object, object, 1, 0, 2), readOf(3, object, 1, 3+5*object, 5+5*object))
		},
		func(object int) []impl.Call {
			return calls(writeOf(object, object, 1, 0, 2), readOf(3, object, 0, 3+5*object, 5+5*object))
		},
	}
	for bits := range 8 {
		var l []impl.Call
		for object := range 3 {
			l = append(l, whole[bits>>object&1](object)...)
		}
		for _, l := range [][]impl.Call{l, turnedAbout(l)} {
			linear, on := wantLocal(t, l)
			if linear != (bits == 0) {
				t.Error(bits, l)
			}
			for object, is := range on {
				if is != (bits>>object&1 == 0) {
					t.Error(bits, object, is)
				}
			}
		}
	}
}

// Only time makes it so: crossed is sequential on each object, and not as a whole.
func TestSequentialOnEachObjectIsNotEnough(t *testing.T) {
	l := crossed()
	wantSeen(t, "crossed", l, false, false)
	for object := range 2 {
		part, _ := impl.OnObject(l, object)
		wantSeen(t, "crossed, on an object", part, false, true)
	}
	// Where both reads begin ahead of the other one's end it is linear on each, and so
	// as a whole.
	late := calls(writeOf(0, 0, 1, 0, 2), readOf(0, 1, 0, 2, 9), writeOf(1, 1, 1, 4, 6), readOf(1, 0, 1, 6, 9))
	if linear, on := wantLocal(t, late); !linear || slices.Contains(on, false) {
		t.Error(late, linear, on)
	}
}

func TestNamedCallsAreLinearJustOnEachObject(t *testing.T) {
	for why, l := range someCalls() {
		linear, on := wantLocal(t, l)
		if want, _ := plainLinear(l); linear != want {
			t.Error(why, linear, on)
		}
		wantOrderOnEach(t, l)
	}
}

package tests

import (
	"math/rand/v2"
	"slices"
	"strconv"
	"testing"

	"loop.example/g00361/impl"
)

// Promise 5 itself: what producers want to be there, asked for again and again
// in any order, is there once and in its order.

// wish is what one producer asks for in one epoch: batches, one behind the
// other, with no two records alike.
type wish struct {
	asks []impl.Ask
}

func (w wish) records() []string {
	var out []string
	for _, a := range w.asks {
		out = append(out, a.Records...)
	}
	return out
}

func randomWish(r *rand.Rand, id int, epoch int, most int) wish {
	var w wish
	seq := 0
	for range 1 + r.IntN(most) {
		a := impl.Ask{Id: id, Epoch: epoch, Seq: seq}
		for range 1 + r.IntN(4) {
			a.Records = append(a.Records, strconv.Itoa(id)+" "+strconv.Itoa(epoch)+" "+strconv.Itoa(seq))
			seq++
		}
		w.asks = append(w.asks, a)
	}
	return w
}

// storedOf are the records of a producer and an epoch, in the log's order.
func storedOf(p impl.Part, id int, epoch int) []string {
	var out []string
	for _, b := range p.Log {
		if b.Producer == id && b.Epoch == epoch {
			out = append(out, b.Records...)
		}
	}
	return out
}

// recordsAt are so many records of the log from an offset on.
func recordsAt(p impl.Part, offset int, many int) []string {
	var out []string
	for _, b := range p.Log {
		out = append(out, b.Records...)
	}
	return out[offset : offset+many]
}

// wantBeginnings asks that of each wish a beginning is there, and of nobody
// anything else.
func wantBeginnings(t *testing.T, p impl.Part, wishes []wish) {
	t.Helper()
	many := 0
	for _, w := range wishes {
		stored, all := storedOf(p, w.asks[0].Id, w.asks[0].Epoch), w.records()
		many += len(stored)
		if len(stored) > len(all) || !slices.Equal(stored, all[:len(stored)]) {
			t.Errorf("wanted %v, stored %v", all, stored)
		}
	}
	if many+1 != p.End {
		t.Error("there are others", p)
	}
}

// wantTold asks that what is told to be there is there, at its offset.
func wantTold(t *testing.T, p impl.Part, a impl.Ask) (impl.Part, int) {
	t.Helper()
	out, code, offset, ok := impl.AskPart(p, a)
	if !ok || !impl.GoodPart(out) {
		t.Fatal(p, a, ok)
	}
	if code == impl.AskOk || code == impl.AskAgain {
		if got := recordsAt(out, offset, len(a.Records)); !slices.Equal(got, a.Records) {
			t.Errorf("%v is told at %d: %v", a, offset, got)
		}
	}
	if (code == impl.AskOk) == samePart(out, p) {
		t.Errorf("code %d of %v changes %v to %v", code, a, p, out)
	}
	if n := len(p.Log); !sameLog(out.Log[:n], p.Log) {
		t.Errorf("%v takes away from %v: %v", a, p, out)
	}
	return out, code
}

func TestAsksInAnyOrderAreThereOnce(t *testing.T) {
	r := newRandom()
	for range 60 {
		var wishes []wish
		var all []impl.Ask
		for id := 1; id < 5; id++ {
			for epoch := range 1 + r.IntN(3) {
				w := randomWish(r, id, epoch, 8)
				wishes, all = append(wishes, w), append(all, w.asks...)
			}
		}
		p := impl.NewPart()
		for range 120 {
			p, _ = wantTold(t, p, all[r.IntN(len(all))])
		}
		wantBeginnings(t, p, wishes)
	}
}

// Producers that ask until they are told, each ask lost or repeated on its way:
// all of it is there in the end.
func TestWhoAsksUntilToldHasAllThereOnce(t *testing.T) {
	r := newRandom()
	for range 60 {
		wishes := []wish{randomWish(r, 1, 0, 10), randomWish(r, 2, 5, 10), randomWish(r, 3, 1000, 10)}
		at := make([]int, len(wishes))
		var sent []impl.Ask
		p := impl.NewPart()
		for !slices.Equal(at, []int{len(wishes[0].asks), len(wishes[1].asks), len(wishes[2].asks)}) {
			k := r.IntN(len(wishes))
			if at[k] == len(wishes[k].asks) {
				continue
			}
			a := wishes[k].asks[at[k]]
			sent = append(sent, a)
			next, code := wantTold(t, p, a)
			if code != impl.AskOk && code != impl.AskAgain {
				t.Fatal("not told to be there:", a, code)
			}
			p = next
			// The answer may be lost, and an ask of before may come once more.
			if r.IntN(3) > 0 {
				at[k]++
			}
			p, _ = wantTold(t, p, sent[r.IntN(len(sent))])
		}
		wantBeginnings(t, p, wishes)
		for _, w := range wishes {
			got, ok := impl.RecordsOf(p, w.asks[0].Id)
			next, nextOk := impl.NextSeq(p, w.asks[0].Id)
			if want := w.records(); !ok || !nextOk || !slices.Equal(got, want) || next != len(want) {
				t.Error(want, got, ok, next, nextOk)
			}
		}
	}
}

// Who comes with a greater epoch shuts out who still asks with a lesser one, and
// what was there of that one stays.
func TestOldEpochsAreShutOut(t *testing.T) {
	r := newRandom()
	for range 60 {
		old, young := randomWish(r, 7, 3, 8), randomWish(r, 7, 4, 8)
		p := impl.NewPart()
		done := r.IntN(len(old.asks) + 1)
		for _, a := range old.asks[:done] {
			p, _ = wantTold(t, p, a)
		}
		before := storedOf(p, 7, 3)
		for _, a := range young.asks {
			p, _ = wantTold(t, p, a)
			for _, late := range old.asks {
				next, code := wantTold(t, p, late)
				if code != impl.AskFenced {
					t.Error(late, code)
				}
				p = next
			}
		}
		if !slices.Equal(storedOf(p, 7, 3), before) || !slices.Equal(storedOf(p, 7, 4), young.records()) {
			t.Error(p)
		}
		if got, ok := impl.RecordsOf(p, 7); !ok || !slices.Equal(got, young.records()) {
			t.Error(got, ok)
		}
	}
}

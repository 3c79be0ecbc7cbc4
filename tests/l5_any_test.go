package tests

import (
	"math/rand/v2"
	"slices"
	"strings"
	"testing"

	"loop.example/g00361/impl"
)

// Promise 19 for chapter 5: answers at any arguments, nothing written into an
// argument, no memory shared.

// oddParts have an odd number or list at each place where a part has one.
func oddParts() []impl.Part {
	l := []impl.Part{
		{Producers: make([]impl.Producer, 1<<16)},
		{Log: make([]impl.Batch, 1<<16)},
		{Producers: []impl.Producer{{Window: make([]impl.Done, 1<<16)}}},
		changed(func(p *impl.Part) { p.Producers[0].Window = make([]impl.Done, 1<<16) }),
		changed(func(p *impl.Part) { p.Log[0].Records = texts(1<<16, 0) }),
		changed(func(p *impl.Part) { p.Log[0].Records[0] = strings.Repeat("x", 1<<20) }),
	}
	for _, n := range oddNumbers() {
		for _, set := range []func(p *impl.Part){
			func(p *impl.Part) { p.End = n },
			func(p *impl.Part) { p.Producers[0].Id = n },
			func(p *impl.Part) { p.Producers[2].Id = n },
			func(p *impl.Part) { p.Producers[1].Epoch = n },
			func(p *impl.Part) { p.Producers[1].Next = n },
			func(p *impl.Part) { p.Producers[1].Window[0].Seq = n },
			func(p *impl.Part) { p.Producers[1].Window[0].Many = n },
			func(p *impl.Part) { p.Producers[1].Window[4].Offset = n },
			func(p *impl.Part) { p.Log[1].Offset = n },
			func(p *impl.Part) { p.Log[1].Epoch = n },
			func(p *impl.Part) { p.Log[0].Producer, p.Producers[0].Id = n, n },
			func(p *impl.Part) { p.Log[1].Seq = n },
			func(p *impl.Part) { *p = impl.Part{End: n} },
		} {
			l = append(l, changed(set))
		}
	}
	return l
}

// oddAsks have one so.
func oddAsks() []impl.Ask {
	var l []impl.Ask
	for _, b := range oddBatches() {
		l = append(l, impl.Ask{Id: b.Producer, Epoch: b.Epoch, Seq: b.Seq, Records: b.Records})
	}
	return l
}

func TestAnyPartIsAnswered(t *testing.T) {
	for _, p := range oddParts() {
		wantPart(t, "odd", p, append(oddNumbers(), 2, 4, 9))
		wantAsked(t, "odd", p, ask(4, 1, 13, 1))
		wantAsked(t, "odd", p, ask(77, 0, 0, 1))
	}
}

func TestAnyAskIsAnswered(t *testing.T) {
	asks := oddAsks()
	for _, p := range []impl.Part{{}, impl.NewPart(), changed(func(p *impl.Part) {}), badParts()["End above"]} {
		for _, a := range asks {
			wantAsked(t, "odd", p, a)
		}
	}
	for i, a := range asks {
		wantPlayed(t, "odd", []impl.Ask{a})
		wantPlayed(t, "odd", []impl.Ask{ask(4, 0, 0, 1), a, asks[len(asks)-1-i]})
	}
	wantPlayed(t, "many", make([]impl.Ask, 1<<16))
	wantPlayed(t, "many good ones", slices.Repeat([]impl.Ask{ask(4, 0, 0, 1)}, 1<<16))
}

func TestAnyBatchesAreAnswered(t *testing.T) {
	for _, b := range oddBatches() {
		for _, l := range [][]impl.Batch{{b}, {{Records: []string{""}}, b}} {
			want, wanted := plainRebuilt(l)
			if p, ok := impl.RebuildFrom(l); ok != wanted || !samePart(p, want) {
				t.Error(l, p, ok)
			}
		}
	}
	if p, ok := impl.RebuildFrom(longLog()); ok || !samePart(p, impl.Part{}) {
		t.Error(p, ok)
	}
}

// moved changes one number or list of a part a little.
func moved(r *rand.Rand, p impl.Part) impl.Part {
	p = copyOfPart(p)
	by := 1 - 2*r.IntN(2)
	if len(p.Log) == 0 || r.IntN(20) == 0 {
		p.End += by
		return p
	}
	b := &p.Log[r.IntN(len(p.Log))]
	x := &p.Producers[r.IntN(len(p.Producers))]
	d := &x.Window[r.IntN(len(x.Window))]
	numbers := []*int{&b.Offset, &b.Epoch, &b.Producer, &b.Seq, &x.Id, &x.Epoch, &x.Next, &d.Seq, &d.Many, &d.Offset}
	switch n := r.IntN(len(numbers) + 4); n {
	case len(numbers):
		x.Window = x.Window[1:]
	case len(numbers) + 1:
		p.Log = p.Log[:len(p.Log)-1]
	case len(numbers) + 2:
		p.Producers = p.Producers[1:]
	case len(numbers) + 3:
		b.Records = append(b.Records, "more")
	default:
		*numbers[n] += by
	}
	return p
}

func TestPartsNearToGoodOnesAreAnswered(t *testing.T) {
	r := newRandom()
	for range 3000 {
		p := moved(r, randomPart(r))
		wantPart(t, "near", p, []int{0, 4, 65535})
		wantPart(t, "near, told by its batches", told(slices.DeleteFunc(copyOfLog(p.Log), func(b impl.Batch) bool { return r.IntN(8) == 0 })), []int{0, 4})
		wantAsked(t, "near", p, randomAsk(r, impl.Part{}))
	}
}

// roomyPart is the same part, all its lists with room behind their length, in
// which stands what would be taken for more of them. What is told beside it are
// all of these lists up to the end of their memory.
func roomyPart(first impl.Part) (impl.Part, impl.Part) {
	var p, memory impl.Part
	memory.End = first.End
	for _, b := range first.Log {
		b, records := withRoom(b)
		p.Log = append(p.Log, b)
		b.Records = records
		memory.Log = append(memory.Log, b)
	}
	for _, x := range first.Producers {
		own, all := roomyList(x.Window, impl.Done{Seq: x.Next, Many: 1, Offset: first.End}, impl.Done{Seq: -7})
		x.Window = own
		p.Producers = append(p.Producers, x)
		x.Window = all
		memory.Producers = append(memory.Producers, x)
	}
	log, logMemory := roomyList(p.Log, impl.Batch{Offset: first.End, Records: []string{"b"}}, impl.Batch{Offset: -7})
	producers, producersMemory := roomyList(p.Producers, impl.Producer{Id: 65535, Epoch: 7}, impl.Producer{Id: -7})
	memory.Log = append(memory.Log, logMemory[len(log):]...)
	memory.Producers = append(memory.Producers, producersMemory[len(producers):]...)
	return impl.Part{Producers: producers, Log: log, End: first.End}, memory
}

// seenAgain is what stands now in the memory of a part made by roomyPart.
func seenAgain(p impl.Part, memory impl.Part) impl.Part {
	out := impl.Part{End: p.End}
	for i, b := range p.Log[:len(memory.Log)] {
		if i < len(p.Log) {
			b.Records = b.Records[:len(memory.Log[i].Records)]
		}
		out.Log = append(out.Log, b)
	}
	for i, x := range p.Producers[:len(memory.Producers)] {
		if i < len(p.Producers) {
			x.Window = x.Window[:len(memory.Producers[i].Window)]
		}
		out.Producers = append(out.Producers, x)
	}
	return out
}

// askedOf are asks that lead to each code, where the part has this producer.
func askedOf(p impl.Part) []impl.Ask {
	l := []impl.Ask{ask(4, 0, 0, 1), ask(1, 1000, 0, 8), ask(77, 0, 0, 2), ask(77, 0, 1, 1), {Id: 5}}
	for _, x := range p.Producers {
		for _, d := range x.Window {
			l = append(l, ask(x.Id, x.Epoch, d.Seq, d.Many), ask(x.Id, x.Epoch, d.Seq, 8))
		}
		l = append(l, ask(x.Id, x.Epoch, x.Next, 3), ask(x.Id, x.Epoch-1, x.Next, 1), ask(x.Id, x.Epoch+1, 0, 1))
	}
	return l
}

func TestPartsStayAsTheyAre(t *testing.T) {
	parts := badParts()
	for why, p := range someParts() {
		parts[why] = p
	}
	for why, first := range parts {
		p, memory := roomyPart(first)
		before := copyOfPart(memory)
		if !samePart(seenAgain(p, memory), before) {
			t.Fatal("the part with room is not the same", why)
		}
		wantPart(t, why, p, []int{0, 2, 4, 9})
		for _, a := range askedOf(p) {
			records, all := roomyList(a.Records, "behind", strings.Repeat("b", 21))
			given := slices.Clone(all)
			a.Records = records
			wantAsked(t, why, p, a)
			if !slices.Equal(all, given) {
				t.Error("written into the records:", why)
			}
		}
		if !samePart(seenAgain(p, memory), before) {
			t.Error("written into the part:", why)
		}
	}
}

func TestAsksStayAsTheyAre(t *testing.T) {
	for n := range 61 {
		first := inRow(4, 0, slices.Repeat([]int{2}, n)...)
		for i := range first {
			first[i].Records, _ = roomyList(first[i].Records, "behind")
		}
		l, memory := roomyList(first, ask(4, 0, 2*n, 1), impl.Ask{Id: -7})
		wantPlayed(t, "room", l)
		for i, a := range memory[:n] {
			if a.Id != 4 || a.Epoch != 0 || a.Seq != 2*i || !slices.Equal(a.Records[:3], append(texts(2, 3), "behind")) {
				t.Error("written into an ask", n, i)
			}
		}
		if memory[n].Id != 4 || memory[n].Seq != 2*n || memory[n+1].Id != -7 {
			t.Error("written behind the asks", n)
		}
	}
}

// batchesShare tells whether a list of one, or a text, is of the other's memory.
func batchesShare(a, b impl.Batch) bool {
	if listsShare(a.Records, b.Records) {
		return true
	}
	for _, s := range a.Records {
		for _, x := range b.Records {
			if stringsShare(s, x) {
				return true
			}
		}
	}
	return false
}

// wantOwnPart asks that nothing of the answer is of an argument's memory, nor
// two of its lists of one.
func wantOwnPart(t *testing.T, why string, p impl.Part, got impl.Part) {
	t.Helper()
	if listsShare(p.Log, got.Log) || listsShare(p.Producers, got.Producers) {
		t.Error(why, "a list is shared")
	}
	for i, b := range got.Log {
		for _, x := range p.Log {
			if batchesShare(b, x) {
				t.Error(why, "a batch is shared", i)
			}
		}
		for _, x := range got.Log[:i] {
			if batchesShare(b, x) {
				t.Error(why, "two batches share", i)
			}
		}
	}
	for i, x := range got.Producers {
		for _, y := range p.Producers {
			if listsShare(x.Window, y.Window) {
				t.Error(why, "a window is shared", i)
			}
		}
		for _, y := range got.Producers[:i] {
			if listsShare(x.Window, y.Window) {
				t.Error(why, "two windows share", i)
			}
		}
	}
}

// itsOwn is an ask whose records are of the part's own memory.
func itsOwn(p impl.Part) impl.Ask {
	a := ask(4, 1000, 0, 1)
	if len(p.Log) > 0 {
		a.Records = p.Log[0].Records
	}
	return a
}

// tightParts are good ones, two of them with lists that are pieces of one memory.
func tightParts() map[string]impl.Part {
	parts := someParts()
	records := texts(2, 20)
	var l []impl.Batch
	for i := range 4 {
		l = append(l, impl.Batch{Offset: 2 * i, Producer: i, Records: records})
	}
	p, _ := plainRebuilt(l)
	windows := make([]impl.Done, 0, 4)
	for i := range p.Producers {
		p.Log[i].Records = records
		windows = append(windows, p.Producers[i].Window[0])
		p.Producers[i].Window = windows[i : i+1]
	}
	parts["one memory for all"] = p
	long := partOf(inRow(4, 0, 2, 2, 2, 2, 2, 2)...)
	for i := range long.Log {
		long.Log[i].Records = records
	}
	parts["the same records"] = long
	return parts
}

func TestPartsShareNoMemory(t *testing.T) {
	for why, first := range tightParts() {
		if !impl.GoodPart(first) {
			t.Fatal(why)
		}
		p, _ := roomyPart(first)
		for _, given := range []impl.Part{first, p} {
			for _, a := range append(askedOf(given), itsOwn(given)) {
				got, _, _, ok := impl.AskPart(given, a)
				if ok {
					wantOwnPart(t, why, given, got)
					wantOwnPart(t, why+": the ask", impl.Part{Log: []impl.Batch{{Records: a.Records}}}, got)
				}
			}
			got, _ := impl.RebuildFrom(given.Log)
			wantOwnPart(t, why+": rebuilt", given, got)
			for _, x := range given.Producers {
				l, _ := impl.RecordsOf(given, x.Id)
				for _, b := range given.Log {
					if batchesShare(impl.Batch{Records: l}, b) {
						t.Error(why, "records are shared")
					}
				}
			}
		}
	}
}

func TestPlaysShareNoMemory(t *testing.T) {
	records := texts(2, 20)
	var l []impl.Ask
	for i := range 20 {
		l = append(l, impl.Ask{Id: i % 4, Epoch: 1, Seq: i / 4 * 2, Records: records})
	}
	p, codes, ok := impl.PlayAsks(l)
	if !ok || len(p.Log) != 21 {
		t.Fatal(p, ok)
	}
	wantOwnPart(t, "play", impl.Part{Log: []impl.Batch{{Records: records}}}, p)
	fill(codes)
	wantOwnPart(t, "new parts", impl.NewPart(), impl.NewPart())
	wantPlayed(t, "once more", l)
}

// spoilPart writes into all of a part's memory.
func spoilPart(p impl.Part) {
	for _, b := range p.Log {
		for i := range b.Records[:cap(b.Records)] {
			b.Records[:cap(b.Records)][i] = "spoilt"
		}
	}
	for _, x := range p.Producers {
		for i := range x.Window[:cap(x.Window)] {
			x.Window[:cap(x.Window)][i] = impl.Done{Seq: -9}
		}
	}
	for i := range p.Log[:cap(p.Log)] {
		p.Log[:cap(p.Log)][i] = impl.Batch{Offset: -9}
	}
	for i := range p.Producers[:cap(p.Producers)] {
		p.Producers[:cap(p.Producers)][i] = impl.Producer{Id: -9}
	}
}

// What is done to an answer, up to the end of its memory, is not seen in an
// argument, nor in what is answered next.
func TestAnsweredPartsMayBeWrittenInto(t *testing.T) {
	for why, first := range someParts() {
		p, memory := roomyPart(first)
		before := copyOfPart(memory)
		for range 2 {
			for _, a := range askedOf(p) {
				got, _ := wantAsked(t, why, p, a)
				spoilPart(got)
			}
			got, _ := impl.RebuildFrom(p.Log)
			spoilPart(got)
			for _, x := range p.Producers {
				l, _ := impl.RecordsOf(p, x.Id)
				for i := range l[:cap(l)] {
					l[:cap(l)][i] = "spoilt"
				}
			}
			spoilPart(impl.NewPart())
			wantPart(t, why, p, []int{0, 4})
		}
		if !samePart(seenAgain(p, memory), before) {
			t.Error("written into the part:", why)
		}
	}
	TestNewPart(t)
}

// What is refused hands out nothing, not even an empty list with memory of an
// argument behind it.
func TestRefusedPartsHandOutNothing(t *testing.T) {
	for why, bad := range badParts() {
		p, _ := roomyPart(bad)
		got, _, _, _ := impl.AskPart(p, ask(4, 1, 13, 1))
		if !samePart(got, impl.Part{}) {
			t.Error(why, got)
		}
		wantOwnPart(t, why, p, got)
		l, ok := impl.RecordsOf(p, 4)
		if ok || len(l) != 0 {
			t.Error(why, l, ok)
		}
	}
	memory := changed(func(p *impl.Part) {})
	empty := impl.Part{Producers: memory.Producers[:0], Log: memory.Log[:0]}
	got, code, offset, ok := impl.AskPart(empty, ask(4, 0, 1, 1))
	if !ok || code != impl.AskGap || offset != 0 || !samePart(got, impl.Part{}) {
		t.Error(got, code, offset, ok)
	}
	wantOwnPart(t, "no batches", empty, got)
	got, ok = impl.RebuildFrom(memory.Log[:0])
	if !ok || !samePart(got, impl.Part{}) {
		t.Error(got, ok)
	}
	wantOwnPart(t, "of none", memory, got)
}

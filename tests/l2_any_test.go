package tests

import (
	"math"
	"math/rand/v2"
	"strings"
	"testing"

	"loop.example/g00361/impl"
)

// Promise 19 for chapter 2: answers at any arguments, nothing written into an
// argument, no memory shared.

// oddStores have an odd number at each place where a store has one.
func oddStores() []impl.Store {
	var l []impl.Store
	for _, n := range oddNumbers() {
		set := []func(s *impl.Store){
			func(s *impl.Store) { s.Next = n },
			func(s *impl.Store) { s.Segments[0].Base = n },
			func(s *impl.Store) { s.Segments[1].Base = n },
			func(s *impl.Store) { s.Segments[0].Index[0].Offset = n },
			func(s *impl.Store) { s.Segments[0].Index[0].At = n },
			func(s *impl.Store) { s.Segments[0].Index[1].Offset = n },
			func(s *impl.Store) { s.Segments[0].Index[1].At = n },
			func(s *impl.Store) { s.Segments[1].Index[0].At = n },
			func(s *impl.Store) { s.Segments = []impl.Segment{{Base: n}}; s.Next = n },
			func(s *impl.Store) { s.Segments = nil; s.Next = n },
			func(s *impl.Store) { s.Segments[1] = impl.Segment{Base: n}; s.Next = n },
		}
		for _, f := range set {
			s := laid(5, chain(5, 20, 20, 39, 60), 3, 1).made()
			f(&s)
			l = append(l, s)
		}
	}
	return l
}

func TestAnyStoreIsAnswered(t *testing.T) {
	for _, s := range oddStores() {
		wantStore(t, "odd", s, append(oddNumbers(), 5, 6, 10, 11))
		wantAppended(t, s, 9, 0, 0, []string{"x"})
	}
}

func TestAnyNumbersAreAnswered(t *testing.T) {
	s := laid(5, chain(5, 20, 20, 39, 60), 3, 1).made()
	for _, n := range oddNumbers() {
		wantStore(t, "offset", s, []int{n})
		wantAppended(t, s, n, 0, 0, []string{"x"})
		wantAppended(t, s, 9, n, 0, []string{"x"})
		wantAppended(t, s, 9, 0, n, []string{"x"})
		if got, ok := impl.NewStore(n); ok != (n >= 0 && n <= 100000) || !ok && !sameStore(got, impl.Store{}) {
			t.Error(n, got, ok)
		}
		if l, ok := impl.ReadFrom(s, 5, n); ok != (n >= 1 && n <= 20) || !ok && len(l) != 0 {
			t.Error(n, l, ok)
		}
	}
	for _, b := range oddBatches() {
		wantAppended(t, s, 9, 0, 0, b.Records)
	}
}

func TestGreatStoresAreAnswered(t *testing.T) {
	long := strings.Repeat("x", 1<<20)
	for why, s := range map[string]impl.Store{
		"long bytes":    {Segments: []impl.Segment{{Bytes: long}}},
		"many marks":    {Segments: []impl.Segment{{Index: make([]impl.Mark, 1<<16)}}},
		"many segments": {Segments: make([]impl.Segment, 1<<16)},
		"batches":       {Segments: []impl.Segment{{Bytes: strings.Repeat(plainBytes(someBatches()[0]), 1<<12)}}},
	} {
		wantStore(t, why, s, []int{math.MinInt, 0, 1, math.MaxInt})
		wantAppended(t, s, 0, 0, 0, []string{"x"})
	}
}

// near changes a store a little at some place.
func near(r *rand.Rand, s impl.Store) impl.Store {
	s = copyOfStore(s)
	k := r.IntN(len(s.Segments))
	g := &s.Segments[k]
	switch r.IntN(8) {
	case 0:
		s.Next += r.IntN(3) - 1
	case 1:
		g.Base += r.IntN(3) - 1
	case 2:
		at := r.IntN(len(g.Bytes) + 1)
		g.Bytes = g.Bytes[:at] + g.Bytes[min(len(g.Bytes), at+r.IntN(30)):]
	case 3:
		if len(g.Bytes) > 0 {
			g.Bytes = turned(g.Bytes, r.IntN(len(g.Bytes)), r.IntN(2))
		}
	case 4:
		g.Index = append(g.Index, impl.Mark{Offset: s.Next, At: len(g.Bytes)})
	case 5:
		if len(g.Index) > 0 {
			m := &g.Index[r.IntN(len(g.Index))]
			m.At += r.IntN(3) - 1
			m.Offset += r.IntN(3) - 1
		}
	case 6:
		s.Segments = append(s.Segments[:k:k], s.Segments[k+1:]...)
	default:
		s.Segments = append(s.Segments, impl.Segment{Base: s.Next})
	}
	return s
}

func TestStoresNearToGoodOnesAreAnswered(t *testing.T) {
	r := newRandom()
	good := 0
	for range 800 {
		s := near(r, randomStore(r).made())
		if impl.GoodStore(s) {
			good++
		}
		offsets := []int{s.Next - 1, s.Next}
		if len(s.Segments) > 0 {
			offsets = append(offsets, s.Segments[0].Base, s.Segments[len(s.Segments)-1].Base)
		}
		wantStore(t, "near", s, offsets)
	}
	if good < 50 {
		t.Error("too few stay good to tell", good)
	}
}

// roomy is the same store with lists that have room behind their length, and
// what is there would be taken for more of them.
func roomy(s impl.Store) (impl.Store, []impl.Segment) {
	memory := append([]impl.Segment(nil), s.Segments...)
	for i, g := range memory {
		marks := append(append([]impl.Mark(nil), g.Index...), impl.Mark{Offset: s.Next, At: 40}, impl.Mark{Offset: -3, At: -4})
		memory[i].Index = marks[:len(g.Index)]
	}
	memory = append(memory, impl.Segment{Base: s.Next}, impl.Segment{Base: -9})
	return impl.Store{Segments: memory[:len(s.Segments)], Next: s.Next}, memory
}

// deep is all that is in this memory, also behind the lengths of its lists.
func deep(memory []impl.Segment) impl.Store {
	var s impl.Store
	for _, g := range memory {
		g.Index = append([]impl.Mark(nil), g.Index[:cap(g.Index)]...)
		s.Segments = append(s.Segments, g)
	}
	return s
}

func TestStoresStayAsTheyAre(t *testing.T) {
	stores := badStores()
	for why, s := range someStores() {
		stores[why] = s
	}
	for why, first := range stores {
		s, memory := roomy(first)
		before := deep(memory)
		records := append(sized(30), "behind", strings.Repeat("b", 21))
		given := append([]string(nil), records...)
		wantStore(t, why, s, []int{0, 3, 5, 6, 7, 8, 9, 10, 20, s.Next - 1, s.Next})
		wantAppended(t, s, 40, 1, 1, records[:1])
		wantAppended(t, s, 40, 1, 1, records[:len(records)-2])
		if !sameStore(deep(memory), before) {
			t.Error("written into the store:", why)
		}
		for i := range records {
			if records[i] != given[i] {
				t.Error("written into the records:", why)
			}
		}
	}
}

// wantNewStore asks that no list or text of the answer is one of the store's,
// nor two of the answer's one memory.
func wantNewStore(t *testing.T, why string, s impl.Store, got impl.Store) {
	t.Helper()
	if listsShare(s.Segments, got.Segments) {
		t.Error(why, "shares the segments")
	}
	for i, g := range got.Segments {
		for _, h := range s.Segments {
			if listsShare(g.Index, h.Index) || stringsShare(g.Bytes, h.Bytes) {
				t.Error(why, "shares marks or bytes", i)
			}
		}
		for k, h := range got.Segments {
			if k != i && (listsShare(g.Index, h.Index) || stringsShare(g.Bytes, h.Bytes)) {
				t.Error(why, "two of one answer share", i, k)
			}
		}
	}
}

func wantNewBatches(t *testing.T, why string, s impl.Store, l []impl.Batch) {
	t.Helper()
	for i, b := range l {
		for k := range l {
			if k != i && listsShare(b.Records, l[k].Records) {
				t.Error(why, "two of one answer share", i, k)
			}
		}
		for _, record := range b.Records {
			for _, g := range s.Segments {
				if stringsShare(record, g.Bytes) {
					t.Error(why, "a record shares the bytes", i)
				}
			}
		}
	}
}

func TestStoresShareNoMemory(t *testing.T) {
	for why, first := range someStores() {
		s, _ := roomy(first)
		for _, bytes := range []int{15, 182} {
			records := sized(bytes)
			got, _ := impl.AppendBatch(s, 40, 0, 0, records)
			wantNewStore(t, why+": append", s, got)
			for _, record := range records {
				for _, g := range got.Segments {
					if stringsShare(record, g.Bytes) {
						t.Error(why, "bytes share a record")
					}
				}
			}
		}
		for _, offset := range around(s) {
			cut, _ := impl.TruncateTo(s, offset)
			wantNewStore(t, why+": cut", s, cut)
			dropped, _ := impl.DropBefore(s, offset)
			wantNewStore(t, why+": drop", s, dropped)
			l, _ := impl.ReadFrom(s, offset, 20)
			wantNewBatches(t, why+": read", s, l)
			b, _ := impl.FindBatch(s, offset)
			wantNewBatches(t, why+": find", s, []impl.Batch{b})
		}
		l, _ := impl.AllBatches(s)
		wantNewBatches(t, why+": all", s, l)
	}
}

// What is done to an answer, up to the end of its memory, is not seen in the
// store, nor in what is answered next.
func TestAnswersMayBeWrittenInto(t *testing.T) {
	spoil := func(s impl.Store) {
		for _, g := range s.Segments {
			for i := range g.Index[:cap(g.Index)] {
				g.Index[:cap(g.Index)][i] = impl.Mark{Offset: -1, At: -1}
			}
		}
		for i := range s.Segments[:cap(s.Segments)] {
			s.Segments[:cap(s.Segments)][i] = impl.Segment{Base: -1}
		}
	}
	for why, first := range someStores() {
		s, memory := roomy(first)
		before := deep(memory)
		for range 2 {
			next, _ := wantAppended(t, s, 40, 0, 0, []string{"x"})
			cut, _ := impl.TruncateTo(s, s.Next)
			same, _ := impl.DropBefore(s, s.Segments[0].Base)
			if !sameStore(same, s) {
				t.Error(why, "is not told again")
			}
			spoil(next)
			spoil(cut)
			spoil(same)
			if l, ok := impl.AllBatches(s); ok && len(l) > 0 {
				l[0].Records[0] = "spoilt"
			}
			fresh, _ := impl.NewStore(5)
			if !sameStore(fresh, laid(5, nil, 0).made()) {
				t.Error("a new store is not new")
			}
			spoil(fresh)
			wantStore(t, why, s, []int{s.Segments[0].Base})
		}
		if !sameStore(deep(memory), before) {
			t.Error("written into the store:", why)
		}
	}
}

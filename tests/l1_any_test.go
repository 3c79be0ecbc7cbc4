package tests

import (
	"math"
	"strings"
	"testing"
	"unsafe"

	"loop.example/g00361/impl"
)

// Promise 19 for chapter 1: answers at any arguments, nothing written into an
// argument, no memory shared.

func oddNumbers() []int {
	return []int{math.MinInt, math.MinInt + 1, -65536, -1, 0, 1, 12, 255, 256, 600, 1001, 65536, 100001, 1 << 24, 1 << 32, math.MaxInt - 1, math.MaxInt}
}

func oddBatches() []impl.Batch {
	var l []impl.Batch
	records := [][]string{nil, {}, {""}, texts(9, 0), texts(8, 21), texts(300, 300), {strings.Repeat("x", 1<<16+1)}}
	for _, n := range oddNumbers() {
		for _, r := range records {
			l = append(l, impl.Batch{Offset: n, Records: r}, impl.Batch{Epoch: n, Records: r},
				impl.Batch{Producer: n, Records: r}, impl.Batch{Seq: n, Records: r},
				impl.Batch{Offset: n, Epoch: n, Producer: n, Seq: n, Records: r})
		}
	}
	return l
}

func TestAnyBatchIsAnswered(t *testing.T) {
	for _, b := range oddBatches() {
		wantBatch(t, "odd", b, plainGood(b))
	}
}

func TestAnyTwoBatchesAreAnswered(t *testing.T) {
	l := oddBatches()
	for i := range l {
		for _, k := range []int{0, i, len(l) - 1 - i} {
			two := []impl.Batch{l[i], l[k]}
			want := plainGood(l[i]) && plainGood(l[k]) && plainFollows(l[i], l[k])
			if impl.GoodLog(two) != want {
				t.Error(two)
			}
			if s, ok := impl.LogBytes(two); ok != want || !ok && s != "" {
				t.Error(two, s, ok)
			}
		}
	}
}

func TestLongListsAreAnswered(t *testing.T) {
	var l []impl.Batch
	for i := range 100001 {
		l = append(l, impl.Batch{Offset: i, Records: []string{""}})
	}
	if !impl.GoodLog(l) {
		t.Error("a long log is a good one")
	}
	if s, ok := impl.LogBytes(l); s != "" || ok {
		t.Error(len(s), ok)
	}
	if impl.GoodLog(append(l, impl.Batch{Offset: 100001, Records: []string{""}})) {
		t.Error("beyond the offsets")
	}
}

func checkText(t *testing.T, s string, places []int) {
	t.Helper()
	for _, at := range places {
		b, end, ok := impl.TakeBatch(s, at)
		want, wantEnd, wantOk := plainTake(s, at)
		if ok != wantOk || end != wantEnd || !sameBatch(b, want) {
			t.Fatalf("%x at %d: %v %d %v", s, at, b, end, ok)
		}
	}
	l, at, all := impl.ReadLog(s)
	want, wantAt, wantAll := plainRead(s)
	if !sameLog(l, want) || at != wantAt || all != wantAll {
		t.Fatalf("%x: %v %d %v", s, l, at, all)
	}
}

func TestAnyTextIsAnswered(t *testing.T) {
	long := strings.Repeat(plainBytes(someBatches()[1]), 100)
	fixed := []string{"", "\x00", "\x00\x00", strings.Repeat("\x00", 600), strings.Repeat("\xff", 600), long[:600], long[:601], long, strings.Repeat("x", 1<<20)}
	for _, s := range fixed {
		checkText(t, s, append(oddNumbers(), len(s)-1, len(s), len(s)+1))
	}
	r := newRandom()
	for range 2000 {
		s := randomText(r, 700)
		checkText(t, s, []int{-1, 0, r.IntN(700), len(s)})
	}
}

// Texts near to logs: some bytes of a good one turned, cut out or put in.
func TestTextsNearToLogsAreAnswered(t *testing.T) {
	r := newRandom()
	for range 3000 {
		s, _ := impl.LogBytes(randomLog(r))
		for range r.IntN(4) {
			at := r.IntN(len(s) + 1)
			switch r.IntN(3) {
			case 0:
				s = s[:at] + randomText(r, 3) + s[at:]
			case 1:
				s = s[:at] + s[min(len(s), at+r.IntN(20)):]
			default:
				if at < len(s) {
					s = turned(s, at, r.IntN(256))
				}
			}
		}
		checkText(t, s, []int{0, r.IntN(len(s) + 1)})
	}
}

// A list with room behind its length: what stands there is nobody's.
func withRoom(b impl.Batch) (impl.Batch, []string) {
	memory := append(append([]string(nil), b.Records...), "behind", strings.Repeat("b", 21))
	b.Records = memory[:len(b.Records)]
	return b, memory
}

func TestArgumentsStayAsTheyAre(t *testing.T) {
	for _, first := range append(someBatches(), oddBatches()...) {
		b, memory := withRoom(first)
		before := append([]string(nil), memory...)
		list := []impl.Batch{b, {Offset: b.Offset + len(b.Records), Epoch: 1000, Records: []string{"x"}}, {Offset: -1}}
		listBefore := copyOfLog(list)
		wantBatch(t, "room", b, plainGood(first))
		impl.GoodLog(list[:2])
		impl.LogBytes(list[:2])
		if !sameLog(list, listBefore) {
			t.Error("list", first)
		}
		for i := range memory {
			if memory[i] != before[i] {
				t.Error("records", first, i)
			}
		}
	}
}

func TestWhatLiesBehindALogIsNotRead(t *testing.T) {
	memory := append(someLog(), impl.Batch{Offset: -7})
	l := memory[:3]
	s, ok := impl.LogBytes(l)
	want, _ := impl.LogBytes(someLog())
	if !impl.GoodLog(l) || !ok || s != want {
		t.Error(s, ok)
	}
	if memory[3].Offset != -7 {
		t.Error("written behind")
	}
}

func stringsShare(a, b string) bool {
	if a == "" || b == "" {
		return false
	}
	x, y := uintptr(unsafe.Pointer(unsafe.StringData(a))), uintptr(unsafe.Pointer(unsafe.StringData(b)))
	return x < y+uintptr(len(b)) && y < x+uintptr(len(a))
}

func listsShare[A, B any](a []A, b []B) bool {
	if cap(a) == 0 || cap(b) == 0 {
		return false
	}
	x, y := uintptr(unsafe.Pointer(unsafe.SliceData(a))), uintptr(unsafe.Pointer(unsafe.SliceData(b)))
	return x < y+uintptr(cap(b))*unsafe.Sizeof(b[:1][0]) && y < x+uintptr(cap(a))*unsafe.Sizeof(a[:1][0])
}

func TestAnswersShareNoMemory(t *testing.T) {
	text, _ := impl.LogBytes(fullLog())
	b, _, ok := impl.TakeBatch(text, 0)
	if !ok {
		t.Fatal("no batch")
	}
	l, _, _ := impl.ReadLog(text)
	if len(l) != 4 {
		t.Fatal(l)
	}
	for i, x := range append(copyOfHeads(l), b) {
		for _, r := range x.Records {
			if stringsShare(r, text) {
				t.Error("a record shares the text's memory", i)
			}
		}
	}
	for i := range l {
		for k := range l {
			if i != k && listsShare(l[i].Records, l[k].Records) {
				t.Error("two lists of one answer share memory", i, k)
			}
		}
	}
	again, _, _ := impl.ReadLog(text)
	again[0].Records[0] = "changed"
	if l[0].Records[0] == "changed" {
		t.Error("two answers share memory")
	}
}

// copyOfHeads copies the list, but not the Records, which are looked at.
func copyOfHeads(l []impl.Batch) []impl.Batch {
	return append([]impl.Batch(nil), l...)
}

func TestBytesShareNoMemoryWithRecords(t *testing.T) {
	for _, b := range append(someBatches(), fullLog()...) {
		one, _ := impl.BatchBytes(b)
		log, _ := impl.LogBytes([]impl.Batch{b})
		for _, r := range b.Records {
			if stringsShare(one, r) || stringsShare(log, r) {
				t.Error(b)
			}
		}
		if one != log || one != plainBytes(b) {
			t.Error(b)
		}
	}
}

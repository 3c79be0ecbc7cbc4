package tests

import (
	"strings"
	"testing"

	"loop.example/g00361/impl"
)

// someBatches are ordinary ones and those at all limits.
func someBatches() []impl.Batch {
	return []impl.Batch{
		{Records: []string{""}},
		{Offset: 5, Epoch: 2, Producer: 300, Seq: 7, Records: []string{"ab", ""}},
		{Offset: 70000, Epoch: 999, Producer: 65534, Seq: 256, Records: []string{"\x00", "\xff\xfe", "\x01\x01\x01"}},
		{Offset: 100000, Epoch: 1000, Producer: 65535, Seq: 65535, Records: texts(8, 20)},
		{Offset: 99999, Epoch: 0, Producer: 1, Seq: 0, Records: texts(8, 0)},
		{Offset: 65536, Epoch: 256, Producer: 0, Seq: 255, Records: texts(1, 20)},
	}
}

// someLog is an ordinary log of three batches.
func someLog() []impl.Batch {
	return []impl.Batch{
		{Offset: 5, Epoch: 2, Producer: 300, Seq: 7, Records: []string{"ab", ""}},
		{Offset: 7, Epoch: 2, Producer: 1, Seq: 0, Records: []string{"c"}},
		{Offset: 8, Epoch: 9, Producer: 2, Seq: 3, Records: []string{"\x00\x01", "d", "e"}},
	}
}

func TestGoodBatchAtItsLimits(t *testing.T) {
	with := func(change func(b *impl.Batch)) impl.Batch {
		b := impl.Batch{Offset: 1, Epoch: 1, Producer: 1, Seq: 1, Records: []string{"x"}}
		change(&b)
		return b
	}
	numbers := []struct {
		name string
		most int
		set  func(b *impl.Batch, n int)
	}{
		{"Offset", 100000, func(b *impl.Batch, n int) { b.Offset = n }},
		{"Epoch", 1000, func(b *impl.Batch, n int) { b.Epoch = n }},
		{"Producer", 65535, func(b *impl.Batch, n int) { b.Producer = n }},
		{"Seq", 65535, func(b *impl.Batch, n int) { b.Seq = n }},
	}
	for _, f := range numbers {
		for n, want := range map[int]bool{-1: false, 0: true, f.most: true, f.most + 1: false} {
			wantBatch(t, f.name, with(func(b *impl.Batch) { f.set(b, n) }), want)
		}
	}
	for many, want := range map[int]bool{0: false, 1: true, impl.MaxRecords: true, impl.MaxRecords + 1: false} {
		wantBatch(t, "Records", with(func(b *impl.Batch) { b.Records = texts(many, 1) }), want)
	}
	for bytes, want := range map[int]bool{0: true, impl.MaxText: true, impl.MaxText + 1: false} {
		for at := range 3 {
			l := texts(3, 2)
			l[at] = strings.Repeat("y", bytes)
			wantBatch(t, "bytes", with(func(b *impl.Batch) { b.Records = l }), want)
		}
	}
	wantBatch(t, "nil", with(func(b *impl.Batch) { b.Records = nil }), false)
}

// wantBatch asks each function that takes a batch whether it takes this one.
func wantBatch(t *testing.T, name string, b impl.Batch, want bool) {
	t.Helper()
	if got := impl.GoodBatch(b); got != want {
		t.Error("GoodBatch", name, b, got)
	}
	if got := impl.GoodLog([]impl.Batch{b}); got != want {
		t.Error("GoodLog", name, b, got)
	}
	bytes, end := "", 0
	if want {
		bytes, end = plainBytes(b), b.Offset+len(b.Records)
	}
	if s, ok := impl.BatchBytes(b); ok != want || s != bytes {
		t.Errorf("BatchBytes %s %v: %x %v", name, b, s, ok)
	}
	if s, ok := impl.LogBytes([]impl.Batch{b}); ok != want || s != bytes {
		t.Errorf("LogBytes %s %v: %x %v", name, b, s, ok)
	}
	if n, ok := impl.EndOf(b); ok != want || n != end {
		t.Error("EndOf", name, b, n, ok)
	}
}

func TestSumOf(t *testing.T) {
	known := map[string]int{"": 65535, "123456789": 0x29b1, "\x00": 0xe1f0, "\xff": 0xff00, "A": 0xb915}
	for s, want := range known {
		if n, ok := impl.SumOf(s); n != want || !ok {
			t.Errorf("%q: %x %v", s, n, ok)
		}
	}
	for c := range 256 {
		for _, s := range []string{string([]byte{byte(c)}), string([]byte{0, byte(c), 17})} {
			if n, ok := impl.SumOf(s); n != plainSum(s) || !ok {
				t.Errorf("%x: %x %v", s, n, ok)
			}
		}
	}
	r := newRandom()
	for range 500 {
		s := randomText(r, impl.MaxBytes)
		if n, ok := impl.SumOf(s); n != plainSum(s) || !ok {
			t.Errorf("%x: %x %v", s, n, ok)
		}
	}
}

func TestSumOfAtMaxBytes(t *testing.T) {
	s := strings.Repeat("q", impl.MaxBytes)
	if n, ok := impl.SumOf(s); n != plainSum(s) || !ok {
		t.Error(n, ok)
	}
	if n, ok := impl.SumOf(s + "q"); n != 0 || ok {
		t.Error(n, ok)
	}
}

func TestEndOf(t *testing.T) {
	for _, b := range someBatches() {
		if n, ok := impl.EndOf(b); n != b.Offset+len(b.Records) || !ok {
			t.Error(b, n, ok)
		}
	}
}

func TestBatchesComeBackFromTheirBytes(t *testing.T) {
	r := newRandom()
	l := someBatches()
	for range 500 {
		l = append(l, randomBatch(r))
	}
	for _, b := range l {
		s, ok := impl.BatchBytes(b)
		if !ok || s != plainBytes(b) {
			t.Fatalf("%v: %x %v", b, s, ok)
		}
		ahead, behind := randomText(r, 100), randomText(r, 100)
		got, end, ok := impl.TakeBatch(ahead+s+behind, len(ahead))
		if !ok || end != len(ahead)+len(s) || !sameBatch(got, b) {
			t.Errorf("%v: %v %d %v", b, got, end, ok)
		}
	}
}

func wantNone(t *testing.T, why string, s string, at int) {
	t.Helper()
	if b, end, ok := impl.TakeBatch(s, at); ok || end != 0 || !sameBatch(b, impl.Batch{}) {
		t.Errorf("%s: %x at %d: %v %d %v", why, s, at, b, end, ok)
	}
}

func turned(s string, at int, by int) string {
	p := []byte(s)
	p[at] ^= byte(by)
	return string(p)
}

func TestNoBatchWhereOneByteWasTurned(t *testing.T) {
	next := plainBytes(someBatches()[1])
	behinds := []string{"", next, strings.Repeat("\x00", 300), strings.Repeat("\xff", 300)}
	for _, b := range someBatches() {
		s := plainBytes(b)
		for at := range s {
			for by := 1; by < 256; by++ {
				for _, behind := range behinds {
					wantNone(t, "turned", turned(s, at, by)+behind, 0)
				}
			}
		}
	}
}

// Where the bytes inside look like lengths a turned one can make other records
// of them that end at the same place: only the sum tells it.
func TestTurnedLengthsWithinRecords(t *testing.T) {
	b := impl.Batch{Records: []string{"\x01\x01\x01", "\x00\x00\x00", "\x02\x02\x02"}}
	s := plainBytes(b)
	for at := 11; at < len(s)-2; at++ {
		for by := 1; by < 256; by++ {
			wantNone(t, "turned", turned(s, at, by), 0)
		}
	}
}

func TestReadLogEndsAheadOfATurnedByte(t *testing.T) {
	l := someLog()
	s, ok := impl.LogBytes(l)
	if !ok {
		t.Fatal("log")
	}
	start := 0
	for k, b := range l {
		end := start + len(plainBytes(b))
		for at := start; at < end; at++ {
			for by := 1; by < 256; by++ {
				got, place, all := impl.ReadLog(turned(s, at, by))
				if !sameLog(got, l[:k]) || place != start || all {
					t.Fatalf("byte %d by %d: %v %d %v", at, by, got, place, all)
				}
			}
		}
		start = end
	}
}

func TestNoBatchWhereBytesAreCutShort(t *testing.T) {
	for _, b := range someBatches() {
		s := plainBytes(b)
		for n := range s {
			wantNone(t, "cut", s[:n], 0)
			wantNone(t, "cut behind others", "zz"+s[:n], 2)
		}
	}
}

// Bytes whose sum is right, but whose length is another one than they have.
func TestNoBatchOfAnotherLength(t *testing.T) {
	for _, b := range someBatches() {
		right := plainLength(b)
		for length := range 400 {
			if length != right {
				s := plainRaw(length, b, len(b.Records), "")
				wantNone(t, "length", s, 0)
				wantNone(t, "length and more", s+strings.Repeat("\x00", 200), 0)
			}
		}
		wantNone(t, "greatest length", plainRaw(65535, b, len(b.Records), ""), 0)
		for _, tail := range []string{"\x00", "\x01a", "junk"} {
			wantNone(t, "left over", plainRaw(right+len(tail), b, len(b.Records), tail), 0)
		}
	}
}

// A sum that is right at the place where a shorter length puts it.
func TestNoBatchThatEndsWithinItsRecords(t *testing.T) {
	b := impl.Batch{Offset: 3, Records: []string{"abcdef", "ghi"}}
	whole := plainBytes(b)
	for size := 2; size < len(whole)-2; size++ {
		p := plainNumber(size, 2) + whole[2:size]
		s := p + plainNumber(plainSum(p), 2)
		wantNone(t, "ends within", s, 0)
		wantNone(t, "ends within and more", s+whole, 0)
	}
}

// Bytes whose sum and length are right, of batches that are not good.
func TestNoBatchThatIsNotGood(t *testing.T) {
	one := []string{"x"}
	bad := map[string]impl.Batch{
		"offset":          {Offset: 100001, Records: one},
		"greatest offset": {Offset: 1<<24 - 1, Records: one},
		"epoch":           {Epoch: 1001, Records: one},
		"greatest epoch":  {Epoch: 65535, Records: one},
		"no records":      {},
		"nine records":    {Records: texts(9, 1)},
		"long record":     {Records: texts(1, 21)},
		"last one long":   {Records: append(texts(7, 3), strings.Repeat("l", 21))},
	}
	for why, b := range bad {
		wantNone(t, why, plainBytes(b), 0)
	}
	wantNone(t, "greatest number of records", plainBytes(impl.Batch{Records: texts(255, 0)}), 0)
	good := impl.Batch{Records: texts(3, 2)}
	for many := range 256 {
		if many != 3 {
			wantNone(t, "another number of records", plainRaw(plainLength(good), good, many, ""), 0)
		}
	}
}

func TestTakeBatchAtPlaces(t *testing.T) {
	l := someLog()
	s, _ := impl.LogBytes(l)
	starts := map[int]int{}
	at := 0
	for i, b := range l {
		starts[at] = i
		at += len(plainBytes(b))
	}
	for at := -3; at <= len(s)+3; at++ {
		i, here := starts[at]
		if !here {
			wantNone(t, "place", s, at)
			continue
		}
		if b, end, ok := impl.TakeBatch(s, at); !ok || !sameBatch(b, l[i]) || end != at+len(plainBytes(b)) {
			t.Error(at, b, end, ok)
		}
	}
}

func TestTakeBatchAtMaxBytes(t *testing.T) {
	b := someBatches()[1]
	s := plainBytes(b)
	full := s + strings.Repeat("z", impl.MaxBytes-2*len(s)) + s
	for _, at := range []int{0, impl.MaxBytes - len(s)} {
		if got, end, ok := impl.TakeBatch(full, at); !ok || end != at+len(s) || !sameBatch(got, b) {
			t.Error(at, got, end, ok)
		}
		wantNone(t, "too long", full+"z", at)
	}
	wantNone(t, "end", full, impl.MaxBytes)
}

func TestGoodLog(t *testing.T) {
	change := func(k int, f func(b *impl.Batch)) []impl.Batch {
		l := someLog()
		f(&l[k])
		return l
	}
	good := map[string][]impl.Batch{
		"nil":            nil,
		"empty":          {},
		"ordinary":       someLog(),
		"same epochs":    change(2, func(b *impl.Batch) { b.Epoch = 2 }),
		"other producer": change(1, func(b *impl.Batch) { b.Producer = 65535; b.Seq = 65535 }),
		"last offset":    {{Offset: 99999, Records: []string{"a"}}, {Offset: 100000, Records: texts(8, 20)}},
	}
	bad := map[string][]impl.Batch{
		"gap":              change(1, func(b *impl.Batch) { b.Offset++ }),
		"overlap":          change(1, func(b *impl.Batch) { b.Offset-- }),
		"gap at last":      change(2, func(b *impl.Batch) { b.Offset++ }),
		"epoch falls":      change(1, func(b *impl.Batch) { b.Epoch = 1 }),
		"epoch falls last": change(2, func(b *impl.Batch) { b.Epoch = 1 }),
		"first not good":   change(0, func(b *impl.Batch) { b.Seq = -1 }),
		"last not good":    change(2, func(b *impl.Batch) { b.Seq = 65536 }),
		"no records":       change(1, func(b *impl.Batch) { b.Records = nil }),
		"beyond offsets":   {{Offset: 100000, Records: []string{"a"}}, {Offset: 100001, Records: []string{"b"}}},
		"out of order":     {someLog()[1], someLog()[0]},
		"twice":            {someLog()[0], someLog()[0]},
	}
	for why, l := range good {
		wantLog(t, why, l, true)
	}
	for why, l := range bad {
		wantLog(t, why, l, false)
	}
}

func wantLog(t *testing.T, why string, l []impl.Batch, want bool) {
	t.Helper()
	if got := impl.GoodLog(l); got != want {
		t.Error("GoodLog", why, got)
	}
	bytes := ""
	for _, b := range l {
		if want {
			bytes += plainBytes(b)
		}
	}
	if s, ok := impl.LogBytes(l); ok != want || s != bytes {
		t.Errorf("LogBytes %s: %x %v", why, s, ok)
	}
}

func TestLogsComeBackFromTheirBytes(t *testing.T) {
	r := newRandom()
	logs := [][]impl.Batch{nil, someLog()}
	for range 300 {
		logs = append(logs, randomLog(r))
	}
	for _, l := range logs {
		s, ok := impl.LogBytes(l)
		if !ok {
			t.Fatal("no bytes", l)
		}
		got, at, all := impl.ReadLog(s)
		if !sameLog(got, l) || at != len(s) || !all {
			t.Error(l, got, at, all)
		}
	}
}

// fullLog has exactly MaxBytes bytes.
func fullLog() []impl.Batch {
	return []impl.Batch{
		{Offset: 0, Records: texts(8, 20)},
		{Offset: 8, Records: texts(8, 20)},
		{Offset: 16, Records: texts(8, 20)},
		{Offset: 24, Records: []string{strings.Repeat("p", 20), strings.Repeat("q", 18)}},
	}
}

func TestLogsAtMaxBytes(t *testing.T) {
	l := fullLog()
	s, ok := impl.LogBytes(l)
	if !ok || len(s) != impl.MaxBytes {
		t.Fatal(len(s), ok)
	}
	if got, at, all := impl.ReadLog(s); !sameLog(got, l) || at != impl.MaxBytes || !all {
		t.Error(got, at, all)
	}
	l[3].Records[1] += "q"
	if s, ok := impl.LogBytes(l); s != "" || ok {
		t.Error(len(s), ok)
	}
	more := append(fullLog(), impl.Batch{Offset: 26, Records: []string{""}})
	if s, ok := impl.LogBytes(more); s != "" || ok {
		t.Error(len(s), ok)
	}
	if got, at, all := impl.ReadLog(s + "z"); len(got) != 0 || at != 0 || all {
		t.Error(got, at, all)
	}
	if got, at, all := impl.ReadLog(s + plainBytes(more[4])); len(got) != 0 || at != 0 || all {
		t.Error(got, at, all)
	}
}

func TestReadLogStopsWhereTheLogDoes(t *testing.T) {
	l := someLog()
	s, _ := impl.LogBytes(l)
	behind := map[string]string{
		"junk":        "z",
		"cut":         plainBytes(impl.Batch{Offset: 11, Epoch: 9, Records: []string{"f"}})[:10],
		"gap":         plainBytes(impl.Batch{Offset: 12, Epoch: 9, Records: []string{"f"}}),
		"overlap":     plainBytes(impl.Batch{Offset: 10, Epoch: 9, Records: []string{"f"}}),
		"epoch falls": plainBytes(impl.Batch{Offset: 11, Epoch: 8, Records: []string{"f"}}),
		"the same":    s,
	}
	for why, more := range behind {
		if got, at, all := impl.ReadLog(s + more); !sameLog(got, l) || at != len(s) || all {
			t.Error(why, got, at, all)
		}
	}
	if got, at, all := impl.ReadLog("z" + s); len(got) != 0 || at != 0 || all {
		t.Error("junk ahead", got, at, all)
	}
}

func TestReadLogOfEachBeginning(t *testing.T) {
	l := someLog()
	s, _ := impl.LogBytes(l)
	for n := 0; n <= len(s); n++ {
		whole, size := 0, 0
		for whole < len(l) && size+len(plainBytes(l[whole])) <= n {
			size += len(plainBytes(l[whole]))
			whole++
		}
		if got, at, all := impl.ReadLog(s[:n]); !sameLog(got, l[:whole]) || at != size || all != (size == n) {
			t.Error(n, got, at, all)
		}
	}
}

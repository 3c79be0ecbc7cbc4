package tests

import (
	"slices"
	"strings"
	"testing"

	"loop.example/g00361/impl"
)

// Promise 2: what is appended is found at its offset, by the sparse index; what
// is cut leaves what was ahead.

// wantStore holds each function's answers of a store against what the plain
// words tell, at each of these offsets.
func wantStore(t *testing.T, why string, s impl.Store, offsets []int) {
	t.Helper()
	p, good := readStore(s)
	if got := impl.GoodStore(s); got != good {
		t.Errorf("%s: GoodStore: %v", why, got)
	}
	var all []impl.Batch
	if good {
		all = p.all()
	}
	if l, ok := impl.AllBatches(s); ok != good || !sameLog(l, all) {
		t.Errorf("%s: AllBatches: %v %v", why, l, ok)
	}
	for _, offset := range offsets {
		wantSeek(t, why, s, offset)
		wantReads(t, why, s, offset)
		wantCuts(t, why, s, offset)
	}
}

func wantSeek(t *testing.T, why string, s impl.Store, offset int) {
	t.Helper()
	p, good := readStore(s)
	number, place, here := 0, 0, false
	if good && p.has(offset) {
		number, place = p.seek(offset)
		here = true
	}
	if k, at, ok := impl.SeekIn(s, offset); k != number || at != place || ok != here {
		t.Errorf("%s: SeekIn %d: %d %d %v, not %d %d %v", why, offset, k, at, ok, number, place, here)
	}
}

func wantReads(t *testing.T, why string, s impl.Store, offset int) {
	t.Helper()
	p, good := readStore(s)
	here := good && p.has(offset)
	var first impl.Batch
	if here {
		first = p.from(offset, 1)[0]
	}
	if b, ok := impl.FindBatch(s, offset); ok != here || !sameBatch(b, first) {
		t.Errorf("%s: FindBatch %d: %v %v", why, offset, b, ok)
	}
	for _, many := range []int{-1, 0, 1, 2, 7, 19, 20, 21} {
		var want []impl.Batch
		may := here && many >= 1 && many <= 20
		if may {
			want = p.from(offset, many)
		}
		if l, ok := impl.ReadFrom(s, offset, many); ok != may || !sameLog(l, want) {
			t.Errorf("%s: ReadFrom %d %d: %v %v", why, offset, many, l, ok)
		}
	}
}

func wantCuts(t *testing.T, why string, s impl.Store, offset int) {
	t.Helper()
	p, good := readStore(s)
	var cut, dropped impl.Store
	may := good && (p.has(offset) || offset == s.Next)
	if may {
		cut = p.cut(offset).made()
	}
	if good {
		dropped = p.dropped(offset).made()
	}
	if c, ok := impl.TruncateTo(s, offset); ok != may || !sameStore(c, cut) {
		t.Errorf("%s: TruncateTo %d: %v %v", why, offset, c, ok)
	}
	if d, ok := impl.DropBefore(s, offset); ok != good || !sameStore(d, dropped) {
		t.Errorf("%s: DropBefore %d: %v %v", why, offset, d, ok)
	}
}

// around is every offset that a store has, and some on both sides.
func around(s impl.Store) []int {
	var l []int
	for n := s.Segments[0].Base - 2; n <= s.Next+2; n++ {
		l = append(l, n)
	}
	return l
}

// wantAppended asks for what comes of a batch behind the store's.
func wantAppended(t *testing.T, s impl.Store, epoch, producer, seq int, records []string) (impl.Store, bool) {
	t.Helper()
	p, good := readStore(s)
	b := impl.Batch{Offset: s.Next, Epoch: epoch, Producer: producer, Seq: seq, Records: records}
	var want impl.Store
	good = good && plainGood(b)
	if good {
		_, good = readStore(p.with(b).made())
	}
	if good {
		want = p.with(b).made()
	}
	got, ok := impl.AppendBatch(s, epoch, producer, seq, records)
	if ok != good || !sameStore(got, want) {
		t.Errorf("AppendBatch %v to %v: %v %v", b, s, got, ok)
	}
	return got, ok
}

// someStores are good ones: without batches, with one, with marks near to each
// other and far, with full segments, with a last one that has none.
func someStores() map[string]impl.Store {
	eight := []int{15, 15, 15, 15, 15, 15, 15, 15}
	many := slices.Repeat(eight, 4)
	return map[string]impl.Store{
		"none at 0":      laid(0, nil, 0).made(),
		"none at 100000": laid(100000, nil, 0).made(),
		"one":            laid(3, chain(3, 18), 1).made(),
		"one long":       laid(3, chain(3, 182), 1).made(),
		"up to 100000":   laid(99989, chain(99989, 84, 60, 60, 15), 1, 2, 1).made(),
		"marks":          laid(7, chain(7, 20, 20, 39, 41, 40, 40, 40), 4, 3).made(),
		"last has none":  laid(0, chain(0, 30, 30, 100), 2, 1, 0).made(),
		"one and none":   laid(10, chain(10, 50), 1, 0).made(),
		"could be one":   laid(10, chain(10, 15, 15, 15), 1, 1, 1).made(),
		"long ones":      laid(0, chain(0, 182, 121, 182, 120, 182, 130, 140, 182), 1, 1, 1, 1, 1, 1, 1, 1).made(),
		"many":           laid(0, chain(0, many...), 8, 8, 8, 8).made(),
	}
}

func TestNewStore(t *testing.T) {
	for base, want := range map[int]bool{-1: false, 0: true, 1: true, 77: true, 100000: true, 100001: false} {
		s, ok := impl.NewStore(base)
		if ok != want {
			t.Error(base, ok)
		}
		if want {
			if !sameStore(s, impl.Store{Segments: []impl.Segment{{Base: base}}, Next: base}) {
				t.Error(base, s)
			}
			wantStore(t, "new", s, around(s))
		} else if !sameStore(s, impl.Store{}) {
			t.Error(base, s)
		}
	}
}

func TestGoodStores(t *testing.T) {
	for why, s := range someStores() {
		if _, good := readStore(s); !good || !impl.GoodStore(s) {
			t.Error(why, "is good")
		}
		wantStore(t, why, s, around(s))
		for _, bytes := range []int{15, 30, 60, 100, 182} {
			wantAppended(t, s, 40, 1, 2, sized(bytes))
		}
	}
}

func TestWhatIsAppendedIsFound(t *testing.T) {
	r := newRandom()
	for range 60 {
		base := r.IntN(99000)
		s, _ := impl.NewStore(base)
		var l []impl.Batch
		epoch := 0
		for {
			records := randomRecords(r)
			next, ok := wantAppended(t, s, epoch, len(l), 2*len(l), records)
			if !ok {
				break
			}
			l = append(l, impl.Batch{Offset: s.Next, Epoch: epoch, Producer: len(l), Seq: 2 * len(l), Records: records})
			epoch += r.IntN(3)
			s = next
		}
		if len(s.Segments) != impl.MaxSegments {
			t.Fatal("ended too early", s)
		}
		for _, b := range l {
			for i := range b.Records {
				if got, ok := impl.FindBatch(s, b.Offset+i); !ok || !sameBatch(got, b) {
					t.Error(b, got, ok)
				}
			}
		}
		if all, ok := impl.AllBatches(s); !ok || !sameLog(all, l) {
			t.Error(all, l)
		}
	}
}

// What is told is what the index leads to: from the mark on there are fewer than
// IndexEvery bytes and one batch up to the one that is looked for.
func TestSeekInIsNearTheBatch(t *testing.T) {
	r := newRandom()
	for range 300 {
		s := randomStore(r).made()
		for offset := s.Segments[0].Base; offset < s.Next; offset++ {
			k, at, ok := impl.SeekIn(s, offset)
			if !ok {
				t.Fatal(s, offset)
			}
			start := at
			for {
				b, end, here := impl.TakeBatch(s.Segments[k].Bytes, at)
				if !here || b.Offset > offset || at-start >= impl.IndexEvery {
					t.Fatal(s, offset, k, start, at)
				}
				if offset < b.Offset+len(b.Records) {
					break
				}
				at = end
			}
		}
	}
}

func TestMarksAtIndexEvery(t *testing.T) {
	cases := []struct {
		sizes []int
		at    []int
	}{
		{[]int{40, 15}, []int{0, 40}},
		{[]int{39, 15}, []int{0}},
		{[]int{39, 15, 15}, []int{0, 54}},
		{[]int{41, 15}, []int{0, 41}},
		{[]int{20, 20, 39, 15}, []int{0, 40}},
		{[]int{20, 20, 40, 15}, []int{0, 40, 80}},
		{[]int{20, 19, 15, 24, 15}, []int{0, 54}},
		{[]int{20, 19, 15, 40, 15}, []int{0, 54, 94}},
		{[]int{40, 40, 40}, []int{0, 40, 80}},
		{[]int{15, 15, 15, 15, 15, 15, 15, 15}, []int{0, 45, 90}},
		{[]int{182}, []int{0}},
	}
	for _, c := range cases {
		s, _ := impl.NewStore(9)
		offsets := map[int]int{}
		at := 0
		for _, n := range c.sizes {
			offsets[at] = s.Next
			at += n
			s, _ = wantAppended(t, s, 0, 0, 0, sized(n))
		}
		if len(s.Segments) != 1 {
			t.Fatal(c, s)
		}
		var want []impl.Mark
		for _, at := range c.at {
			want = append(want, impl.Mark{Offset: offsets[at], At: at})
		}
		if !sameMarks(s.Segments[0].Index, want) {
			t.Error(c, s.Segments[0].Index)
		}
		wantStore(t, "marks", s, around(s))
	}
}

func TestSegmentsAtSegmentBytes(t *testing.T) {
	cases := []struct {
		sizes    []int
		segments []int
	}{
		{[]int{60, 60}, []int{120}},
		{[]int{60, 61}, []int{60, 61}},
		{[]int{61, 60, 59}, []int{61, 119}},
		{[]int{105, 15, 15}, []int{120, 15}},
		{[]int{105, 16}, []int{105, 16}},
		{[]int{120, 15}, []int{120, 15}},
		{[]int{182, 15}, []int{182, 15}},
		{[]int{15, 182, 15, 105}, []int{15, 182, 120}},
		{[]int{40, 40, 40, 15}, []int{120, 15}},
		{[]int{40, 40, 41}, []int{80, 41}},
	}
	for _, c := range cases {
		s, _ := impl.NewStore(0)
		for _, n := range c.sizes {
			s, _ = wantAppended(t, s, 1, 0, 0, sized(n))
		}
		if len(s.Segments) != len(c.segments) {
			t.Error(c, s)
			continue
		}
		for i, n := range c.segments {
			if len(s.Segments[i].Bytes) != n {
				t.Error(c, i, len(s.Segments[i].Bytes))
			}
		}
		wantStore(t, "segments", s, around(s))
	}
	for sizes, want := range map[[2]int]bool{{60, 60}: true, {60, 61}: false, {105, 15}: true, {15, 106}: false} {
		s := laid(4, chain(4, sizes[0], sizes[1]), 2).made()
		if impl.GoodStore(s) != want {
			t.Error(sizes)
		}
		wantStore(t, "by hand", s, around(s))
	}
}

func TestNoMoreThanMaxSegments(t *testing.T) {
	s, _ := impl.NewStore(0)
	for range impl.MaxSegments {
		next, ok := wantAppended(t, s, 0, 0, 0, sized(105))
		if !ok {
			t.Fatal(s)
		}
		s = next
	}
	if _, ok := wantAppended(t, s, 0, 0, 0, sized(16)); ok {
		t.Error("a ninth segment")
	}
	if _, ok := wantAppended(t, s, 0, 0, 0, sized(15)); !ok {
		t.Error("there is room in the last one")
	}
	dropped, _ := impl.DropBefore(s, s.Segments[1].Base)
	if _, ok := wantAppended(t, dropped, 0, 0, 0, sized(16)); !ok {
		t.Error("there is room for one more")
	}
	nine := make([]int, 9)
	for i := range nine {
		nine[i] = 50
	}
	l := chain(0, nine...)
	wantStore(t, "eight", laid(0, l, 1, 1, 1, 1, 1, 1, 1, 1).made(), []int{0, 1, 5})
	for why, p := range map[string]plainStore{
		"nine":          laid(0, l, 1, 1, 1, 1, 1, 1, 1, 1, 1),
		"nine, none":    laid(0, l, 1, 1, 1, 1, 1, 1, 1, 1, 0),
		"without any":   {},
		"a hundred too": laid(0, nil, make([]int, 100)...),
	} {
		s := p.made()
		if impl.GoodStore(s) {
			t.Error(why)
		}
		wantStore(t, why, s, []int{0, 1, 5})
		wantAppended(t, s, 9, 0, 0, sized(15))
	}
}

func TestAppendBatchRefuses(t *testing.T) {
	s := laid(3, chain(3, 30, 30, 90), 2, 1).made()
	one := []string{"x"}
	cases := []struct {
		why                  string
		epoch, producer, seq int
		records              []string
		want                 bool
	}{
		{"as it should be", 2, 0, 0, one, true},
		{"a later epoch", 1000, 0, 0, one, true},
		{"an epoch that falls", 1, 0, 0, one, false},
		{"an epoch too great", 1001, 0, 0, one, false},
		{"an epoch below 0", -1, 0, 0, one, false},
		{"the last producer", 2, 65535, 65535, one, true},
		{"a producer too great", 2, 65536, 0, one, false},
		{"a producer below 0", 2, -1, 0, one, false},
		{"a seq too great", 2, 0, 65536, one, false},
		{"a seq below 0", 2, 0, -1, one, false},
		{"no records", 2, 0, 0, nil, false},
		{"eight records", 2, 0, 0, texts(8, 20), true},
		{"nine records", 2, 0, 0, texts(9, 0), false},
		{"a long record", 2, 0, 0, texts(1, 21), false},
	}
	for _, c := range cases {
		if _, ok := wantAppended(t, s, c.epoch, c.producer, c.seq, c.records); ok != c.want {
			t.Error(c.why, ok)
		}
	}
	empty := laid(3, nil, 0).made()
	if _, ok := wantAppended(t, empty, 0, 0, 0, one); !ok {
		t.Error("any epoch comes first")
	}
}

// An epoch that falls from one segment to the next is within none of them.
func TestEpochsFallNowhere(t *testing.T) {
	l := chain(3, 30, 30, 90, 30)
	for k := range l {
		changed := copyOfLog(l)
		changed[k].Epoch = 0
		s := laid(3, changed, 2, 2).made()
		if impl.GoodStore(s) != (k <= 1) {
			t.Error(k)
		}
		wantStore(t, "epochs", s, []int{3, 4})
	}
}

func TestNextAtItsLimit(t *testing.T) {
	for end, want := range map[int]bool{99999: true, 100000: true, 100001: false} {
		s, _ := impl.NewStore(end - 3)
		if _, ok := wantAppended(t, s, 0, 0, 0, []string{"a", "b", "c"}); ok != want {
			t.Error(end, ok)
		}
		by := laid(end-3, []impl.Batch{{Offset: end - 3, Records: texts(3, 3)}}, 1).made()
		if impl.GoodStore(by) != want {
			t.Error("by hand", end)
		}
		wantStore(t, "limit", by, around(by))
	}
	last, _ := impl.NewStore(100000)
	if _, ok := wantAppended(t, last, 0, 0, 0, []string{""}); ok {
		t.Error("behind 100000")
	}
	for _, n := range []int{-1, 100001, 1 << 40} {
		s := impl.Store{Segments: []impl.Segment{{Base: n}}, Next: n}
		if impl.GoodStore(s) {
			t.Error(n)
		}
		wantStore(t, "beyond", s, []int{n - 1, n, n + 1})
		wantAppended(t, s, 0, 0, 0, []string{""})
	}
	if impl.GoodStore(laid(100000, []impl.Batch{{Offset: 100000, Records: texts(1, 1)}}, 1).made()) {
		t.Error("a batch at 100000 ends behind it")
	}
}

// badStores each have one thing that is not as said.
func badStores() map[string]impl.Store {
	change := func(f func(s *impl.Store)) impl.Store {
		s := laid(5, chain(5, 20, 20, 39, 40, 40, 40, 60), 3, 3, 1).made()
		f(&s)
		return s
	}
	index := func(k int, marks ...impl.Mark) impl.Store {
		return change(func(s *impl.Store) { s.Segments[k].Index = marks })
	}
	good := change(func(s *impl.Store) {})
	first, second := good.Segments[0].Index, good.Segments[1].Index
	two := plainText(laid(5, chain(5, 20, 20), 2).groups[0])
	return map[string]impl.Store{
		"base below":             change(func(s *impl.Store) { s.Segments[0].Base-- }),
		"base above":             change(func(s *impl.Store) { s.Segments[0].Base++ }),
		"second base below":      change(func(s *impl.Store) { s.Segments[1].Base-- }),
		"second base above":      change(func(s *impl.Store) { s.Segments[1].Base++ }),
		"last base above":        change(func(s *impl.Store) { s.Segments[2].Base++ }),
		"no marks":               index(0),
		"first mark missing":     index(0, first[1]),
		"second mark missing":    index(0, first[0]),
		"last mark missing":      index(1, second[0], second[1]),
		"a mark too many":        index(0, first[0], impl.Mark{Offset: 6, At: 20}, first[1]),
		"a mark twice":           index(0, first[0], first[1], first[1]),
		"a mark behind all":      index(0, first[0], first[1], impl.Mark{Offset: 11, At: 79}),
		"marks out of order":     index(0, first[1], first[0]),
		"a mark out of place":    index(1, second[0], impl.Mark{Offset: second[1].Offset, At: second[1].At + 1}, second[2]),
		"a mark of another one":  index(1, second[0], impl.Mark{Offset: second[1].Offset + 1, At: second[1].At}, second[2]),
		"a mark within a batch":  index(0, first[0], impl.Mark{Offset: 8, At: 40}),
		"marks of another":       index(0, second...),
		"next below":             change(func(s *impl.Store) { s.Next-- }),
		"next above":             change(func(s *impl.Store) { s.Next++ }),
		"next at 0":              change(func(s *impl.Store) { s.Next = 0 }),
		"next below 0":           change(func(s *impl.Store) { s.Next = -1 }),
		"next beyond":            change(func(s *impl.Store) { s.Next = 100001 }),
		"none in the middle":     laid(5, chain(5, 20, 20, 39), 1, 0, 2).made(),
		"none at first":          laid(5, chain(5, 20, 20, 39), 0, 3).made(),
		"two with none":          laid(5, chain(5, 20), 1, 0, 0).made(),
		"only two with none":     laid(5, nil, 0, 0).made(),
		"no segments":            {},
		"no segments, a next":    {Next: 5},
		"bytes left over":        change(func(s *impl.Store) { s.Segments[1].Bytes += "z" }),
		"bytes cut":              change(func(s *impl.Store) { s.Segments[1].Bytes = s.Segments[1].Bytes[:119] }),
		"a byte turned":          change(func(s *impl.Store) { s.Segments[1].Bytes = turned(s.Segments[1].Bytes, 50, 1) }),
		"a batch gone":           change(func(s *impl.Store) { s.Segments[0].Bytes = two }),
		"a batch at the end off": change(func(s *impl.Store) { s.Segments = s.Segments[:2] }),
		"a segment gone":         change(func(s *impl.Store) { s.Segments = append(s.Segments[:1:1], s.Segments[2]) }),
		"a segment twice":        change(func(s *impl.Store) { s.Segments = append(s.Segments[:2:2], s.Segments[1:]...) }),
		"out of order":           change(func(s *impl.Store) { s.Segments[0], s.Segments[1] = s.Segments[1], s.Segments[0] }),
		"an empty base wrong":    {Segments: []impl.Segment{{Base: 4}}, Next: 5},
		"an empty with a mark":   {Segments: []impl.Segment{{Base: 5, Index: []impl.Mark{{Offset: 5}}}}, Next: 5},
		"too many bytes":         laid(5, chain(5, 60, 61), 2).made(),
		"far too many bytes":     laid(5, chain(5, 182, 182, 182), 3).made(),
		"more than MaxBytes":     laid(5, chain(5, 182, 182, 182, 182), 4).made(),
	}
}

func TestBadStoresAreRefused(t *testing.T) {
	for why, s := range badStores() {
		if _, good := readStore(s); good || impl.GoodStore(s) {
			t.Error(why, "is not good")
		}
		wantStore(t, why, s, []int{0, 4, 5, 6, 8, 11, 14, 15, 16, 100000, 100001})
		wantAppended(t, s, 7, 0, 0, []string{"x"})
	}
}

func TestReadFromHowMany(t *testing.T) {
	s := someStores()["many"]
	for many, want := range map[int]int{-1: 0, 0: 0, 1: 1, 2: 2, 8: 8, 9: 9, 20: 20, 21: 0} {
		for _, offset := range []int{0, 3, 8, 12} {
			l, ok := impl.ReadFrom(s, offset, many)
			if len(l) != want || ok != (want > 0) {
				t.Error(many, offset, len(l), ok)
			}
			for i, b := range l {
				if b.Offset != offset+i {
					t.Error(many, offset, i, b)
				}
			}
		}
	}
	if l, ok := impl.ReadFrom(s, 20, 20); len(l) != 12 || !ok {
		t.Error("fewer are left", len(l), ok)
	}
}

func TestWhatIsCutLeavesWhatWasAhead(t *testing.T) {
	r := newRandom()
	for range 200 {
		s := randomStore(r).made()
		all, _ := impl.AllBatches(s)
		for offset := s.Segments[0].Base; offset <= s.Next; offset++ {
			c, ok := impl.TruncateTo(s, offset)
			left, good := impl.AllBatches(c)
			if !ok || !good || !sameLog(left, all[:len(left)]) || c.Next > offset {
				t.Fatal(s, offset, c, ok)
			}
			if len(left) < len(all) && all[len(left)].Offset+len(all[len(left)].Records) <= offset {
				t.Fatal("too much is cut", s, offset, c)
			}
			for _, b := range left {
				if got, ok := impl.FindBatch(c, b.Offset); !ok || !sameBatch(got, b) {
					t.Fatal(s, offset, b)
				}
			}
			again, ok := impl.AppendBatch(c, 1000, 1, 1, []string{"again"})
			if b, here := impl.FindBatch(again, c.Next); ok != here || ok && b.Records[0] != "again" {
				t.Fatal(s, offset, again)
			}
		}
	}
}

func TestTruncateToPlaces(t *testing.T) {
	s := laid(5, chain(5, 60, 60, 60, 15), 2, 2).made()
	cases := map[int]struct{ next, segments, bytes int }{
		5:  {5, 1, 0},
		6:  {5, 1, 0},
		8:  {8, 1, 60},
		9:  {8, 1, 60},
		11: {11, 1, 120},
		12: {11, 1, 120},
		14: {14, 2, 60},
		15: {15, 2, 75},
	}
	if s.Next != 15 {
		t.Fatal(s)
	}
	for offset, want := range cases {
		c, ok := impl.TruncateTo(s, offset)
		if !ok || c.Next != want.next || len(c.Segments) != want.segments || len(c.Segments[want.segments-1].Bytes) != want.bytes {
			t.Error(offset, c, ok)
		}
		if c.Segments[0].Base != 5 || !impl.GoodStore(c) {
			t.Error(offset, c)
		}
	}
	for _, offset := range []int{-1, 0, 4, 16, 100000} {
		if c, ok := impl.TruncateTo(s, offset); ok || !sameStore(c, impl.Store{}) {
			t.Error(offset, c, ok)
		}
	}
	none := laid(0, chain(0, 30), 1, 0).made()
	if c, ok := impl.TruncateTo(none, none.Next); !ok || len(c.Segments) != 1 || c.Next != none.Next {
		t.Error("a last segment without batches goes", c, ok)
	}
}

func TestDropBeforePlaces(t *testing.T) {
	s := laid(5, chain(5, 110, 60, 60, 15, 105), 1, 2, 2).made()
	bases := []int{s.Segments[0].Base, s.Segments[1].Base, s.Segments[2].Base}
	for _, offset := range []int{-1 << 62, -1, 0, 4, bases[0], bases[1] - 1, bases[1], bases[1] + 1, bases[2] - 1, bases[2], bases[2] + 1, s.Next, s.Next + 1, 100001, 1 << 62} {
		gone := 0
		for gone < 2 && bases[gone+1] <= offset {
			gone++
		}
		d, ok := impl.DropBefore(s, offset)
		if !ok || len(d.Segments) != 3-gone || d.Segments[0].Base != bases[gone] || d.Next != s.Next || !impl.GoodStore(d) {
			t.Error(offset, d, ok)
		}
		if _, ok := impl.FindBatch(d, bases[gone]-1); ok {
			t.Error("it is gone", offset)
		}
		for k := bases[gone]; k < s.Next; k++ {
			want, _ := impl.FindBatch(s, k)
			if b, ok := impl.FindBatch(d, k); !ok || !sameBatch(b, want) {
				t.Error("it is left", offset, k)
			}
		}
	}
	none := laid(0, chain(0, 30), 1, 0).made()
	if d, ok := impl.DropBefore(none, none.Next); !ok || len(d.Segments) != 1 || d.Segments[0].Base != none.Next || d.Segments[0].Bytes != "" {
		t.Error("all but the one without batches go", d, ok)
	}
}

func TestStoresGoOn(t *testing.T) {
	r := newRandom()
	for range 25 {
		s, _ := impl.NewStore(r.IntN(3000))
		epoch := 0
		for range 40 {
			switch r.IntN(8) {
			case 0:
				offset := s.Next - r.IntN(8)
				wantCuts(t, "cut", s, offset)
				if c, ok := impl.TruncateTo(s, offset); ok {
					s = c
				}
			case 1:
				offset := s.Segments[0].Base + r.IntN(20)
				wantCuts(t, "drop", s, offset)
				s, _ = impl.DropBefore(s, offset)
			default:
				epoch += r.IntN(2)
				if next, ok := wantAppended(t, s, epoch, r.IntN(5), r.IntN(5), randomRecords(r)); ok {
					s = next
				}
			}
			if !impl.GoodStore(s) {
				t.Fatal(s)
			}
		}
		wantStore(t, "goes on", s, around(s))
	}
}

func TestRandomStores(t *testing.T) {
	r := newRandom()
	for range 40 {
		s := randomStore(r).made()
		if !impl.GoodStore(s) {
			t.Fatal(s)
		}
		wantStore(t, "random", s, around(s))
	}
}

// The document's stores hold texts of any bytes.
func TestStoresOfAnyBytes(t *testing.T) {
	s, _ := impl.NewStore(0)
	for c := range 8 {
		next, ok := wantAppended(t, s, c, c, c, []string{strings.Repeat(string([]byte{byte(c * 36)}), 20), "\x00\x0c\xff"})
		if !ok {
			t.Fatal(c)
		}
		s = next
	}
	wantStore(t, "bytes", s, around(s))
}

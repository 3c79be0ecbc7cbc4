package tests

import (
	"slices"
	"strconv"
	"testing"

	"loop.example/g00361/impl"
)

// Promise 5: of each producer and epoch each record is there once, in its order,
// however often it was asked for.

// wantPart holds the answers of one part against what the plain words tell.
func wantPart(t *testing.T, why string, p impl.Part, ids []int) {
	t.Helper()
	if got := impl.GoodPart(p); got != plainPartGood(p) {
		t.Errorf("%s: GoodPart %v: %v", why, p, got)
	}
	want, wanted := plainRebuilt(p.Log)
	if got, ok := impl.RebuildFrom(p.Log); ok != wanted || !samePart(got, want) {
		t.Errorf("%s: RebuildFrom %v: %v %v", why, p.Log, got, ok)
	}
	for _, id := range ids {
		records, wanted := plainRecords(p, id)
		if got, ok := impl.RecordsOf(p, id); ok != wanted || !slices.Equal(got, records) {
			t.Errorf("%s: RecordsOf %v %d: %v %v", why, p, id, got, ok)
		}
		next, _ := plainNextSeq(p, id)
		if got, ok := impl.NextSeq(p, id); ok != wanted || got != next {
			t.Errorf("%s: NextSeq %v %d: %v %v", why, p, id, got, ok)
		}
	}
}

// wantAsked does so of an ask, and tells the part that was answered.
func wantAsked(t *testing.T, why string, p impl.Part, a impl.Ask) (impl.Part, int) {
	t.Helper()
	want, wantCode, wantOffset, wanted := plainAsked(p, a)
	got, code, offset, ok := impl.AskPart(p, a)
	if ok != wanted || code != wantCode || offset != wantOffset || !samePart(got, want) {
		t.Errorf("%s: AskPart %v %v: %v %d %d %v", why, p, a, got, code, offset, ok)
	}
	return got, code
}

// wantCode asks for just this code and offset, and that what is refused changes
// nothing.
func wantCode(t *testing.T, why string, p impl.Part, a impl.Ask, code int, offset int) {
	t.Helper()
	got, c, o, ok := impl.AskPart(p, a)
	if c != code || o != offset || !ok {
		t.Errorf("%s: code %d, offset %d, %v", why, c, o, ok)
	}
	if code != impl.AskOk && !samePart(got, p) {
		t.Errorf("%s: the part changes: %v", why, got)
	}
	if !impl.GoodPart(got) {
		t.Errorf("%s: what is answered is not good: %v", why, got)
	}
	wantAsked(t, why, p, a)
}

// wantNoAsk asks for the zero answer.
func wantNoAsk(t *testing.T, why string, p impl.Part, a impl.Ask) {
	t.Helper()
	got, code, offset, ok := impl.AskPart(p, a)
	if ok || code != 0 || offset != 0 || !samePart(got, impl.Part{}) {
		t.Errorf("%s: %v %d %d %v", why, got, code, offset, ok)
	}
}

func TestTheNamedNumbersOfProducers(t *testing.T) {
	got := []int{impl.MaxProducers, impl.WindowSize, impl.MaxAsks, impl.AskOk, impl.AskAgain, impl.AskOld, impl.AskGap, impl.AskFenced, impl.AskFull}
	if !slices.Equal(got, []int{4, 5, 60, 0, 1, 2, 3, 4, 5}) {
		t.Error(got)
	}
}

func TestNewPart(t *testing.T) {
	want := impl.Part{
		Producers: []impl.Producer{{Id: 0, Epoch: 0, Next: 1, Window: []impl.Done{{Seq: 0, Many: 1, Offset: 0}}}},
		Log:       []impl.Batch{{Records: []string{""}}},
		End:       1,
	}
	if p := impl.NewPart(); !samePart(p, want) || !impl.GoodPart(p) {
		t.Error(p)
	}
	wantPart(t, "new", impl.NewPart(), []int{-1, 0, 1})
}

// someParts are good ones.
func someParts() map[string]impl.Part {
	all := slices.Concat(inRow(9, 0, 8, 8), inRow(0, 3, 1), inRow(65535, 1000, 2, 1), inRow(9, 1, 1), inRow(4, 0, 1, 2, 3, 4, 5, 6, 7))
	return map[string]impl.Part{
		"no batches":            {},
		"empty lists":           {Producers: []impl.Producer{}, Log: []impl.Batch{}},
		"new":                   partOf(impl.Ask{Records: []string{""}}),
		"one batch":             partOf(ask(4, 7, 0, 8)),
		"the last Id and Epoch": partOf(ask(65535, 1000, 0, 1)),
		"a full window":         partOf(inRow(4, 0, 1, 2, 3, 1, 2)...),
		"one has left it":       partOf(inRow(4, 0, 1, 2, 3, 1, 2, 8)...),
		"epochs that rise":      partOf(slices.Concat(inRow(4, 0, 1, 2), inRow(4, 1, 1, 1), inRow(4, 900, 3))...),
		"epochs that fall":      partOf(slices.Concat(inRow(4, 9, 1), inRow(3, 2, 2), inRow(5, 0, 1))...),
		"taking turns":          partOf(ask(4, 0, 0, 1), ask(2, 1, 0, 2), ask(4, 0, 1, 1), ask(2, 1, 2, 1), ask(4, 1, 0, 1)),
		"four producers":        partOf(all...),
		"as many as may":        partOf(sixty(4, 0)...),
		"as many records":       partOf(inRow(4, 0, slices.Repeat([]int{8}, 60)...)...),
		"the longest texts":     partOf(impl.Ask{Id: 1, Records: texts(8, 20)}, impl.Ask{Id: 1, Seq: 8, Records: texts(1, 20)}),
	}
}

// changed is a part of three producers, of which one has a full window and has
// changed its epoch, with something made another.
func changed(change func(p *impl.Part)) impl.Part {
	p := partOf(slices.Concat(inRow(2, 5, 3), inRow(4, 0, 1, 1), inRow(4, 1, 1, 2, 3, 1, 2, 4), inRow(9, 0, 1, 1))...)
	change(&p)
	return p
}

// badParts are not good, each by one thing that its producers or End tell.
func badParts() map[string]impl.Part {
	return map[string]impl.Part{
		"one without batches": changed(func(p *impl.Part) {
			p.Producers = append(p.Producers, impl.Producer{Id: 10})
		}),
		"one of a batch not there": changed(func(p *impl.Part) {
			p.Producers = append(p.Producers, impl.Producer{Id: 10, Next: 1, Window: []impl.Done{{Many: 1}}})
		}),
		"one alone, no batches":  {Producers: []impl.Producer{{Id: 4}}},
		"the last one missing":   changed(func(p *impl.Part) { p.Producers = p.Producers[:2] }),
		"the first one missing":  changed(func(p *impl.Part) { p.Producers = p.Producers[1:] }),
		"all missing":            changed(func(p *impl.Part) { p.Producers = nil }),
		"one twice":              changed(func(p *impl.Part) { p.Producers = append(p.Producers, p.Producers[2]) }),
		"another in its place":   changed(func(p *impl.Part) { p.Producers[1] = p.Producers[0] }),
		"Ids that fall":          changed(func(p *impl.Part) { slices.Reverse(p.Producers) }),
		"Ids that fall once":     changed(func(p *impl.Part) { p.Producers[0], p.Producers[1] = p.Producers[1], p.Producers[0] }),
		"another Id":             changed(func(p *impl.Part) { p.Producers[2].Id = 10 }),
		"an Id below 0":          changed(func(p *impl.Part) { p.Producers[0].Id = -1 }),
		"an Epoch above":         changed(func(p *impl.Part) { p.Producers[1].Epoch = 2 }),
		"an Epoch of before":     changed(func(p *impl.Part) { p.Producers[1].Epoch = 0 }),
		"Next above":             changed(func(p *impl.Part) { p.Producers[1].Next++ }),
		"Next below":             changed(func(p *impl.Part) { p.Producers[1].Next-- }),
		"Next through all":       changed(func(p *impl.Part) { p.Producers[1].Next += 2 }),
		"no window":              changed(func(p *impl.Part) { p.Producers[0].Window = nil }),
		"a window too short":     changed(func(p *impl.Part) { p.Producers[1].Window = p.Producers[1].Window[1:] }),
		"one short at the end":   changed(func(p *impl.Part) { p.Producers[1].Window = p.Producers[1].Window[:4] }),
		"a window too long":      changed(func(p *impl.Part) { withSixth(p) }),
		"one of another epoch":   changed(func(p *impl.Part) { withOlder(p) }),
		"a window turned round":  changed(func(p *impl.Part) { slices.Reverse(p.Producers[1].Window) }),
		"another Seq":            changed(func(p *impl.Part) { p.Producers[1].Window[2].Seq++ }),
		"another Many":           changed(func(p *impl.Part) { p.Producers[1].Window[2].Many++ }),
		"another Offset":         changed(func(p *impl.Part) { p.Producers[1].Window[2].Offset++ }),
		"another's window":       changed(func(p *impl.Part) { p.Producers[1].Window = p.Producers[0].Window }),
		"the last Offset so":     changed(func(p *impl.Part) { p.Producers[1].Window[4].Offset-- }),
		"End above":              changed(func(p *impl.Part) { p.End++ }),
		"End below":              changed(func(p *impl.Part) { p.End-- }),
		"End 0":                  changed(func(p *impl.Part) { p.End = 0 }),
		"no batches, an End":     {End: 1},
		"the last batch missing": changed(func(p *impl.Part) { p.Log = p.Log[:len(p.Log)-1] }),
		"all batches missing":    changed(func(p *impl.Part) { p.Log = nil }),
	}
}

// withSixth makes the window one batch longer than it may be.
func withSixth(p *impl.Part) {
	p.Producers[1].Window = slices.Insert(p.Producers[1].Window, 0, impl.Done{Seq: 0, Many: 1, Offset: 5})
}

// withOlder fills up a window with the batch of the epoch ahead.
func withOlder(p *impl.Part) {
	*p = partOf(slices.Concat(inRow(4, 0, 1), inRow(4, 1, 2, 3))...)
	p.Producers[0].Window = slices.Insert(p.Producers[0].Window, 0, impl.Done{Seq: 0, Many: 1, Offset: 0})
}

func TestGoodParts(t *testing.T) {
	for why, p := range someParts() {
		if !impl.GoodPart(p) {
			t.Error(why)
		}
		wantPart(t, why, p, []int{-1, 0, 1, 2, 4, 9, 65535, 65536})
	}
	p := changed(func(p *impl.Part) {})
	if !impl.GoodPart(p) {
		t.Error("unchanged", p)
	}
	if d := (impl.Done{Seq: 0, Many: 1, Offset: 5}); p.Log[3].Offset != d.Offset || p.Log[3].Epoch != 1 || len(p.Producers[1].Window) != 5 {
		t.Error("the batch that has left the window is not where it is looked for", p)
	}
}

func TestBadParts(t *testing.T) {
	for why, p := range badParts() {
		if impl.GoodPart(p) {
			t.Error(why)
		}
		for _, a := range []impl.Ask{ask(4, 1, 13, 1), ask(4, 2, 0, 1), ask(2, 5, 0, 3), ask(77, 0, 0, 1)} {
			wantNoAsk(t, why, p, a)
		}
		for _, id := range []int{2, 4, 9, 10} {
			if l, ok := impl.RecordsOf(p, id); len(l) != 0 || ok {
				t.Error(why, l, ok)
			}
			if n, ok := impl.NextSeq(p, id); n != 0 || ok {
				t.Error(why, n, ok)
			}
		}
		wantPart(t, why, p, []int{2, 4, 9, 10})
	}
}

// changedLog are the batches of a good part with something made another.
func changedLog(change func(l []impl.Batch)) []impl.Batch {
	l := changed(func(p *impl.Part) {}).Log
	change(l)
	return l
}

// longLog are batches up to the one whose last record would have the Seq 65536:
// far more than a part may have.
func longLog() []impl.Batch {
	var l []impl.Batch
	for seq := 0; seq <= 65536; seq += 8 {
		l = append(l, impl.Batch{Offset: seq, Producer: 4, Seq: seq, Records: texts(8, 0)})
	}
	return l
}

// badPartLogs are no part's batches, each by one thing.
func badPartLogs() map[string][]impl.Batch {
	b := func(offset, epoch, producer, seq, many int) impl.Batch {
		return impl.Batch{Offset: offset, Epoch: epoch, Producer: producer, Seq: seq, Records: texts(many, 1)}
	}
	five := partOf(slices.Concat(inRow(1, 0, 1), inRow(2, 0, 1), inRow(3, 0, 1), inRow(4, 0, 1))...).Log
	return map[string][]impl.Batch{
		"a producer too many":     append(five, b(4, 0, 5, 0, 1)),
		"a batch too many":        append(partOf(sixty(4, 0)...).Log, b(60, 0, 4, 60, 1)),
		"one too many, anew":      append(partOf(sixty(4, 0)...).Log, b(60, 1, 4, 0, 1)),
		"not from Offset 0":       {b(1, 0, 4, 0, 1)},
		"an Offset left out":      changedLog(func(l []impl.Batch) { l[3].Offset++ }),
		"an Offset twice":         changedLog(func(l []impl.Batch) { l[3].Offset-- }),
		"the last Offset so":      changedLog(func(l []impl.Batch) { l[len(l)-1].Offset++ }),
		"Epochs that fall":        {b(0, 5, 4, 0, 1), b(1, 4, 4, 0, 1)},
		"fall, Seq going on":      {b(0, 5, 4, 0, 1), b(1, 4, 4, 1, 1)},
		"fall behind another's":   {b(0, 5, 4, 0, 1), b(1, 0, 3, 0, 1), b(2, 4, 4, 0, 1)},
		"fall back to the first":  {b(0, 0, 4, 0, 1), b(1, 1, 4, 0, 1), b(2, 0, 4, 1, 1)},
		"a first Seq of 1":        {b(0, 0, 4, 1, 1)},
		"of 1 in a later Epoch":   {b(0, 0, 4, 0, 1), b(1, 1, 4, 1, 1)},
		"a Seq left out":          {b(0, 0, 4, 0, 1), b(1, 0, 4, 2, 1)},
		"a Seq twice":             {b(0, 0, 4, 0, 2), b(2, 0, 4, 1, 1)},
		"a batch twice":           {b(0, 0, 4, 0, 2), b(2, 0, 4, 0, 2)},
		"another's Seq":           {b(0, 0, 4, 0, 2), b(2, 0, 5, 2, 1)},
		"a Seq left out, later":   changedLog(func(l []impl.Batch) { l[6].Seq++ }),
		"a Seq above":             {b(0, 0, 4, 65536, 1)},
		"a record's Seq above":    {b(0, 0, 4, 65535, 2)},
		"a record's Seq, so far":  longLog(),
		"a Seq below 0":           {b(0, 0, 4, -1, 1)},
		"an Epoch above":          {b(0, 1001, 4, 0, 1)},
		"an Epoch below 0":        {b(0, -1, 4, 0, 1)},
		"an Id above":             {b(0, 0, 65536, 0, 1)},
		"an Id below 0":           {b(0, 0, -1, 0, 1)},
		"an Offset below 0":       {b(-1, 0, 4, 0, 1)},
		"no records":              {b(0, 0, 4, 0, 0)},
		"no records, then some":   {b(0, 0, 4, 0, 0), b(0, 0, 4, 0, 1)},
		"a record too many":       {b(0, 0, 4, 0, 9)},
		"a text too long":         {{Producer: 4, Records: texts(1, 21)}},
		"the last text too long":  changedLog(func(l []impl.Batch) { l[len(l)-1].Records = texts(1, 21) }),
		"no records at the end":   changedLog(func(l []impl.Batch) { l[len(l)-1].Records = nil }),
		"one too many at the end": changedLog(func(l []impl.Batch) { l[len(l)-1].Records = texts(9, 0) }),
	}
}

// told is the part that batches would tell if they were as said.
func told(l []impl.Batch) impl.Part {
	p := impl.Part{Log: l, End: manyRecords(l)}
	for _, id := range idsOf(l) {
		p.Producers = append(p.Producers, plainProducer(l, id))
	}
	return p
}

func TestBatchesThatAreNoParts(t *testing.T) {
	for why, l := range badPartLogs() {
		if p, ok := impl.RebuildFrom(l); ok || !samePart(p, impl.Part{}) {
			t.Error(why, p, ok)
		}
		p := told(l)
		if impl.GoodPart(p) {
			t.Error(why)
		}
		wantNoAsk(t, why, p, ask(4, 900, 0, 1))
		wantPart(t, why, p, []int{3, 4, 5})
	}
}

func TestPartsComeBackFromTheirBatches(t *testing.T) {
	for why, p := range someParts() {
		if got, ok := impl.RebuildFrom(p.Log); !ok || !samePart(got, p) {
			t.Error(why, got, ok)
		}
	}
	for _, none := range [][]impl.Batch{nil, {}} {
		p, ok := impl.RebuildFrom(none)
		if !ok || !samePart(p, impl.Part{}) || !impl.GoodPart(p) {
			t.Error("of none", p, ok)
		}
	}
	five := partOf(slices.Concat(inRow(4, 0, 1), inRow(2, 9, 1), inRow(3, 0, 1), inRow(1, 0, 1))...)
	p, ok := impl.RebuildFrom(five.Log)
	if !ok || len(p.Producers) != 4 || p.Producers[0].Id != 1 || p.Producers[3].Id != 4 || p.End != 4 {
		t.Error("as many producers as may be, by rising Id", p, ok)
	}
}

// An ask's Epoch and Seq, below, at and above what the producer has.
func TestCodesOfAProducerThatIsThere(t *testing.T) {
	p := partOf(slices.Concat(inRow(4, 2, 1, 2), inRow(7, 0, 1))...)
	wantCode(t, "Epoch below, Seq at Next", p, ask(4, 1, 3, 1), impl.AskFenced, 0)
	wantCode(t, "Epoch below, Seq 0", p, ask(4, 1, 0, 1), impl.AskFenced, 0)
	wantCode(t, "Epoch below, Seq above", p, ask(4, 0, 9, 1), impl.AskFenced, 0)
	wantCode(t, "Epoch below, as in the window", p, ask(4, 1, 1, 2), impl.AskFenced, 0)
	wantCode(t, "at, Seq at Next", p, ask(4, 2, 3, 1), impl.AskOk, 4)
	wantCode(t, "at, as in the window", p, ask(4, 2, 1, 2), impl.AskAgain, 1)
	wantCode(t, "at, the first in the window", p, ask(4, 2, 0, 1), impl.AskAgain, 0)
	wantCode(t, "at, more records than there", p, ask(4, 2, 0, 2), impl.AskOld, 0)
	wantCode(t, "at, fewer records than there", p, ask(4, 2, 1, 1), impl.AskOld, 0)
	wantCode(t, "at, Seq within a batch", p, ask(4, 2, 2, 1), impl.AskOld, 0)
	wantCode(t, "at, all of it at once", p, ask(4, 2, 0, 3), impl.AskOld, 0)
	wantCode(t, "at, Seq one above", p, ask(4, 2, 4, 1), impl.AskGap, 0)
	wantCode(t, "at, Seq far above", p, ask(4, 2, 65535, 1), impl.AskGap, 0)
	wantCode(t, "above, Seq 0", p, ask(4, 3, 0, 2), impl.AskOk, 4)
	wantCode(t, "far above, Seq 0", p, ask(4, 1000, 0, 8), impl.AskOk, 4)
	wantCode(t, "above, Seq at Next", p, ask(4, 3, 3, 1), impl.AskGap, 0)
	wantCode(t, "above, Seq 1", p, ask(4, 3, 1, 2), impl.AskGap, 0)
	wantCode(t, "another's Next", p, ask(4, 2, 1, 1), impl.AskOld, 0)
	wantCode(t, "the other one at its Next", p, ask(7, 0, 1, 1), impl.AskOk, 4)
	wantCode(t, "other texts, as many", p, impl.Ask{Id: 4, Epoch: 2, Seq: 1, Records: []string{"", "other"}}, impl.AskAgain, 1)
}

func TestCodesOfAProducerThatIsNotThere(t *testing.T) {
	for _, p := range []impl.Part{{}, partOf(ask(4, 2, 0, 3)), partOf(inRow(4, 0, 1, 1)...)} {
		wantCode(t, "Seq 0", p, ask(5, 0, 0, 1), impl.AskOk, p.End)
		wantCode(t, "a later Epoch", p, ask(3, 1000, 0, 8), impl.AskOk, p.End)
		wantCode(t, "Seq 1", p, ask(5, 0, 1, 1), impl.AskGap, 0)
		wantCode(t, "the last Seq", p, ask(5, 0, 65535, 1), impl.AskGap, 0)
		wantCode(t, "another's Next", p, ask(5, 2, 3, 1), impl.AskGap, 0)
	}
}

// What comes is put behind all, by rising Id, with its window.
func TestWhatAnAskBrings(t *testing.T) {
	p := partOf(inRow(4, 0, 1, 2)...)
	got, _, _, _ := impl.AskPart(p, impl.Ask{Id: 2, Epoch: 7, Records: []string{"x", ""}})
	want := impl.Part{
		Producers: []impl.Producer{{Id: 2, Epoch: 7, Next: 2, Window: []impl.Done{{Seq: 0, Many: 2, Offset: 3}}}, p.Producers[0]},
		Log:       append(p.Log, impl.Batch{Offset: 3, Epoch: 7, Producer: 2, Records: []string{"x", ""}}),
		End:       5,
	}
	if !samePart(got, want) {
		t.Error("a new producer", got)
	}
	got, _, _, _ = impl.AskPart(p, impl.Ask{Id: 4, Seq: 3, Records: []string{"y"}})
	want = impl.Part{
		Producers: []impl.Producer{{Id: 4, Next: 4, Window: []impl.Done{{Seq: 0, Many: 1, Offset: 0}, {Seq: 1, Many: 2, Offset: 1}, {Seq: 3, Many: 1, Offset: 3}}}},
		Log:       append(p.Log, impl.Batch{Offset: 3, Producer: 4, Seq: 3, Records: []string{"y"}}),
		End:       4,
	}
	if !samePart(got, want) {
		t.Error("the same epoch", got)
	}
	got, _, _, _ = impl.AskPart(p, impl.Ask{Id: 4, Epoch: 1, Records: []string{"z"}})
	want = impl.Part{
		Producers: []impl.Producer{{Id: 4, Epoch: 1, Next: 1, Window: []impl.Done{{Seq: 0, Many: 1, Offset: 3}}}},
		Log:       append(p.Log, impl.Batch{Offset: 3, Epoch: 1, Producer: 4, Records: []string{"z"}}),
		End:       4,
	}
	if !samePart(got, want) {
		t.Error("a later epoch", got)
	}
}

// Again is told of each batch of the window, old of one that has left it.
func TestAgainWithinTheWindow(t *testing.T) {
	many := []int{1, 2, 3, 1, 2, 8, 4, 1}
	for n := 1; n <= len(many); n++ {
		p := partOf(append([]impl.Ask{ask(3, 0, 0, 2)}, inRow(4, 6, many[:n]...)...)...)
		seq := 0
		for i, m := range many[:n] {
			code, offset := impl.AskAgain, 2+seq
			if i < n-5 {
				code, offset = impl.AskOld, 0
			}
			why := strconv.Itoa(i) + " of " + strconv.Itoa(n)
			wantCode(t, why, p, ask(4, 6, seq, m), code, offset)
			wantCode(t, why+", one record more", p, ask(4, 6, seq, m%8+1), impl.AskOld, 0)
			wantCode(t, why+", of an epoch before", p, ask(4, 5, seq, m), impl.AskFenced, 0)
			seq += m
		}
		wantCode(t, "the next one", p, ask(4, 6, seq, 1), impl.AskOk, 2+seq)
		wantCode(t, "the one behind it", p, ask(4, 6, seq+1, 1), impl.AskGap, 0)
	}
}

// The window of an epoch begins with it: what was done in the one ahead is
// told no more.
func TestWindowsBehindAChangeOfEpoch(t *testing.T) {
	p := partOf(slices.Concat(inRow(4, 0, 2, 1, 1), inRow(4, 1, 1))...)
	wantCode(t, "of the new epoch", p, ask(4, 1, 0, 1), impl.AskAgain, 4)
	wantCode(t, "as in the old one", p, ask(4, 1, 0, 2), impl.AskOld, 0)
	wantCode(t, "in the old one", p, ask(4, 0, 0, 2), impl.AskFenced, 0)
	wantCode(t, "above Next, there in the old one", p, ask(4, 1, 2, 1), impl.AskGap, 0)
	wantCode(t, "at Next, there in the old one", p, ask(4, 1, 1, 1), impl.AskOk, 5)
}

func TestAsksWithoutRoom(t *testing.T) {
	four := partOf(slices.Concat(inRow(1, 1, 1), inRow(2, 1, 2), inRow(3, 1, 1), inRow(9, 1, 1))...)
	wantCode(t, "a fifth producer", four, ask(5, 0, 0, 1), impl.AskFull, 0)
	wantCode(t, "a gap ahead of full", four, ask(5, 0, 1, 1), impl.AskGap, 0)
	wantCode(t, "one of the four", four, ask(9, 1, 1, 1), impl.AskOk, 5)
	wantCode(t, "one of the four anew", four, ask(1, 2, 0, 1), impl.AskOk, 5)
	three := partOf(slices.Concat(inRow(1, 1, 1), inRow(2, 1, 2), inRow(3, 1, 1))...)
	wantCode(t, "a fourth producer", three, ask(0, 0, 0, 1), impl.AskOk, 4)
	full := partOf(sixty(4, 0)...)
	wantCode(t, "a batch too many", full, ask(4, 0, 60, 1), impl.AskFull, 0)
	wantCode(t, "anew", full, ask(4, 1, 0, 1), impl.AskFull, 0)
	wantCode(t, "of another one", full, ask(5, 0, 0, 1), impl.AskFull, 0)
	wantCode(t, "again ahead of full", full, ask(4, 0, 59, 1), impl.AskAgain, 59)
	wantCode(t, "the eldest again", full, ask(4, 0, 55, 1), impl.AskAgain, 55)
	wantCode(t, "old ahead of full", full, ask(4, 0, 54, 1), impl.AskOld, 0)
	wantCode(t, "a gap of the same", full, ask(4, 0, 61, 1), impl.AskGap, 0)
	wantCode(t, "a gap anew", full, ask(4, 1, 60, 1), impl.AskGap, 0)
	wantCode(t, "a gap of another one", full, ask(5, 0, 60, 1), impl.AskGap, 0)
	wantCode(t, "the last one", partOf(sixty(4, 1)...), ask(4, 0, 59, 8), impl.AskOk, 59)
	late := partOf(slices.Concat(inRow(4, 3, 1), sixty(5, 1))...)
	wantCode(t, "fenced ahead of full", late, ask(4, 2, 1, 1), impl.AskFenced, 0)
}

// So few batches never come near to the last Seq: where a record's Seq would be
// above it the ask is a gap, and batches that tell of such are no part's.
func TestAsksAtTheLastSeq(t *testing.T) {
	for why, p := range someParts() {
		for _, a := range []impl.Ask{ask(4, 0, 65535, 1), ask(4, 0, 65535, 2), ask(4, 0, 65528, 8), ask(4, 0, 65529, 8)} {
			a.Epoch = 1000
			wantCode(t, why, p, a, impl.AskGap, 0)
		}
	}
	l := longLog()
	for _, n := range []int{len(l), len(l) - 1, 61} {
		p := told(l[:n])
		if impl.GoodPart(p) {
			t.Error(n)
		}
		wantNoAsk(t, "behind too many", p, ask(4, 0, 8*n, 1))
	}
	wantCode(t, "as far as they come", told(l[:60]), ask(4, 0, 480, 1), impl.AskFull, 0)
	wantCode(t, "one less", told(l[:59]), ask(4, 0, 472, 8), impl.AskOk, 472)
}

// goodAsks are let in behind no batches.
func goodAsks() map[string]impl.Ask {
	return map[string]impl.Ask{
		"the least":         {Records: []string{""}},
		"the last Id":       ask(65535, 0, 0, 1),
		"the last Epoch":    ask(4, 1000, 0, 1),
		"MaxRecords":        ask(4, 0, 0, impl.MaxRecords),
		"a text of MaxText": {Id: 4, Records: texts(1, impl.MaxText)},
		"all at the limits": {Id: 65535, Epoch: 1000, Records: texts(8, 20)},
	}
}

// badAsks are not as said, each by one thing.
func badAsks() map[string]impl.Ask {
	return map[string]impl.Ask{
		"an Id below 0":           ask(-1, 0, 0, 1),
		"an Id above":             ask(65536, 0, 0, 1),
		"an Epoch below 0":        ask(4, -1, 0, 1),
		"an Epoch above":          ask(4, 1001, 0, 1),
		"a Seq below 0":           ask(4, 0, -1, 1),
		"a Seq above":             ask(4, 0, 65536, 1),
		"no records":              ask(4, 0, 0, 0),
		"nil records":             {Id: 4},
		"a record too many":       ask(4, 0, 0, impl.MaxRecords+1),
		"a text too long":         {Id: 4, Records: texts(1, impl.MaxText+1)},
		"the last text too long":  {Id: 4, Records: append(texts(7, 20), texts(1, 21)...)},
		"below where fenced":      ask(2, -1, 0, 1),
		"no records where fenced": ask(2, 0, 0, 0),
		"no records where a gap":  ask(2, 5, 9, 0),
		"no records where old":    ask(2, 5, 1, 0),
	}
}

func TestAsksAtTheirLimits(t *testing.T) {
	for why, a := range goodAsks() {
		wantCode(t, why, impl.Part{}, a, impl.AskOk, 0)
		for _, p := range someParts() {
			wantAsked(t, why, p, a)
		}
	}
	wantCode(t, "the last Seq", impl.Part{}, ask(4, 0, 65535, 1), impl.AskGap, 0)
	for why, a := range badAsks() {
		for _, p := range someParts() {
			wantNoAsk(t, why, p, a)
		}
		for _, p := range badParts() {
			wantNoAsk(t, why, p, a)
		}
		wantNoAsk(t, why, changed(func(p *impl.Part) {}), a)
	}
}

// wantPlayed holds what asks lead to against what the plain words tell.
func wantPlayed(t *testing.T, why string, l []impl.Ask) (impl.Part, []int, bool) {
	t.Helper()
	want, wantCodes, wanted := plainPlayed(l)
	p, codes, ok := impl.PlayAsks(l)
	if ok != wanted || !slices.Equal(codes, wantCodes) || !samePart(p, want) {
		t.Errorf("%s: PlayAsks %v: %v %v %v", why, l, p, codes, ok)
	}
	return p, codes, ok
}

func TestPlayAsks(t *testing.T) {
	for _, none := range [][]impl.Ask{nil, {}} {
		p, codes, ok := wantPlayed(t, "none", none)
		if !ok || len(codes) != 0 || !samePart(p, impl.NewPart()) {
			t.Error("none", p, codes, ok)
		}
	}
	p, codes, ok := wantPlayed(t, "one", []impl.Ask{ask(4, 0, 0, 2)})
	if !ok || !slices.Equal(codes, []int{impl.AskOk}) || p.End != 3 || len(p.Log) != 2 {
		t.Error("one", p, codes, ok)
	}
	// The new part's batch is one of those that a part may have.
	p, codes, ok = wantPlayed(t, "MaxAsks", sixty(4, 0))
	if !ok || len(codes) != 60 || codes[58] != impl.AskOk || codes[59] != impl.AskFull || len(p.Log) != 60 || p.End != 60 {
		t.Error("MaxAsks", p, codes, ok)
	}
	same := slices.Repeat([]impl.Ask{ask(4, 0, 0, 2)}, 60)
	p, codes, ok = wantPlayed(t, "MaxAsks of one", same)
	if !ok || codes[0] != impl.AskOk || codes[59] != impl.AskAgain || len(p.Log) != 2 {
		t.Error("MaxAsks of one", p, codes, ok)
	}
	for why, l := range map[string][]impl.Ask{"one too many": append(sixty(4, 0), ask(4, 0, 60, 1)), "one of them again": append(same, same[0])} {
		if p, codes, ok := wantPlayed(t, why, l); ok || len(codes) != 0 || !samePart(p, impl.Part{}) {
			t.Error(why, p, codes, ok)
		}
	}
}

func TestPlayAsksOfEachCode(t *testing.T) {
	l := []impl.Ask{ask(0, 0, 0, 1), ask(0, 0, 0, 2), ask(0, 0, 1, 1), ask(0, 0, 3, 1), ask(0, 2, 0, 1), ask(0, 1, 0, 1), ask(0, 3, 1, 1),
		ask(1, 0, 0, 1), ask(2, 0, 0, 1), ask(3, 0, 0, 1), ask(4, 0, 0, 1), ask(4, 0, 1, 1)}
	_, codes, ok := wantPlayed(t, "codes", l)
	want := []int{impl.AskAgain, impl.AskOld, impl.AskOk, impl.AskGap, impl.AskOk, impl.AskFenced, impl.AskGap,
		impl.AskOk, impl.AskOk, impl.AskOk, impl.AskFull, impl.AskGap}
	if !ok || !slices.Equal(codes, want) {
		t.Error(codes, ok)
	}
}

func TestPlayAsksOfOneThatIsNotAsSaid(t *testing.T) {
	for why, bad := range badAsks() {
		for at := range 4 {
			l := slices.Insert(inRow(4, 0, 1, 2, 3), at, bad)
			if p, codes, ok := wantPlayed(t, why, l); ok || len(codes) != 0 || !samePart(p, impl.Part{}) {
				t.Error(why, at, p, codes, ok)
			}
		}
	}
}

func TestRecordsAndNextSeq(t *testing.T) {
	a := func(id, epoch, seq int, records ...string) impl.Ask {
		return impl.Ask{Id: id, Epoch: epoch, Seq: seq, Records: records}
	}
	asks := []impl.Ask{a(4, 0, 0, "a", "b"), a(2, 9, 0, "x"), a(4, 0, 2, "c"), a(2, 9, 1, "y", ""), a(4, 1, 0, "d"), a(4, 1, 1, "e", "d")}
	type answer struct {
		id      int
		next    int
		records []string
	}
	for n, l := range map[int][]answer{
		1: {{4, 2, []string{"a", "b"}}, {2, 0, nil}},
		2: {{4, 2, []string{"a", "b"}}, {2, 1, []string{"x"}}},
		4: {{4, 3, []string{"a", "b", "c"}}, {2, 3, []string{"x", "y", ""}}},
		5: {{4, 1, []string{"d"}}, {2, 3, []string{"x", "y", ""}}},
		6: {{4, 3, []string{"d", "e", "d"}}, {2, 3, []string{"x", "y", ""}}, {0, 0, nil}, {3, 0, nil}, {5, 0, nil}, {-1, 0, nil}, {65536, 0, nil}},
	} {
		p := partOf(asks[:n]...)
		for _, want := range l {
			there := want.next > 0
			if next, ok := impl.NextSeq(p, want.id); next != want.next || ok != there {
				t.Error(n, want, next, ok)
			}
			if records, ok := impl.RecordsOf(p, want.id); !slices.Equal(records, want.records) || ok != there {
				t.Error(n, want, records, ok)
			}
		}
	}
	if l, ok := impl.RecordsOf(impl.NewPart(), 0); !ok || !slices.Equal(l, []string{""}) {
		t.Error(l, ok)
	}
}

// All that two producers may ask in so few words, in any order.
func TestAllShortPlays(t *testing.T) {
	var all []impl.Ask
	for i := range 24 {
		all = append(all, ask(i%2*4, i/2%2, i/4%3, 1+i/12))
	}
	parts := []impl.Part{{}, impl.NewPart()}
	for range 3 {
		var next []impl.Part
		for _, p := range parts {
			wantPart(t, "all", p, []int{0, 4})
			for _, a := range all {
				if out, code := wantAsked(t, "all", p, a); code == impl.AskOk {
					next = append(next, out)
				}
			}
		}
		parts = next
	}
}

func TestRandomPartsAndAsks(t *testing.T) {
	r := newRandom()
	for range 400 {
		p := randomPart(r)
		wantPart(t, "random", p, []int{0, 1, 2, 4, 300, 65535})
		for range 10 {
			wantAsked(t, "random", p, randomAsk(r, p))
		}
	}
	for range 150 {
		var l []impl.Ask
		p := impl.NewPart()
		for range r.IntN(61) {
			a := randomAsk(r, p)
			l = append(l, a)
			p, _, _, _ = plainAsked(p, a)
		}
		got, _, ok := wantPlayed(t, "random", l)
		if !ok || !samePart(got, p) {
			t.Error(l, got, ok)
		}
	}
}

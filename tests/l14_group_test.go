package tests

import (
	"fmt"
	"math"
	"slices"
	"testing"

	"loop.example/g00361/impl"
)

// Chapter 14, function by function and step by step. That no two read one part, and
// that nothing committed falls, stands in l14_once_test.go.

// wantReaders holds all answers of a group but its steps against what the plain words
// tell.
func wantReaders(t *testing.T, why string, r impl.Readers) {
	t.Helper()
	if got, want := impl.GoodReaders(r), plainReadersGood(r); got != want {
		t.Errorf("%s: GoodReaders %v: %v", why, r, got)
	}
	for k := -1; k <= 6; k++ {
		wantShare(t, why, r, k)
		wantOwner(t, why, r, k)
	}
	left, wanted := plainLeft(r)
	if got, ok := impl.LeftToRead(r); got != left || ok != wanted {
		t.Errorf("%s: LeftToRead %v: %v %v", why, r, got, ok)
	}
}

func wantShare(t *testing.T, why string, r impl.Readers, k int) {
	t.Helper()
	want, wanted := plainShare(r, k)
	if got, ok := impl.ShareOf(r, k); !slices.Equal(got, want) || ok != wanted {
		t.Errorf("%s: ShareOf %v %d: %v %v", why, r, k, got, ok)
	}
}

func wantOwner(t *testing.T, why string, r impl.Readers, part int) {
	t.Helper()
	want, wanted := plainOwner(r, part)
	if got, ok := impl.OwnerOf(r, part); got != want || ok != wanted {
		t.Errorf("%s: OwnerOf %v %d: %v %v", why, r, part, got, ok)
	}
}

// wantReadersStep does so of a step, and tells where it leads.
func wantReadersStep(t *testing.T, why string, r impl.Readers, x impl.GroupStep) (impl.Readers, bool) {
	t.Helper()
	want, wanted := plainReadersStep(r, x)
	got, ok := impl.StepReaders(r, x)
	if !sameReaders(got, want) || ok != wanted {
		t.Errorf("%s: StepReaders %v %v: %v %v", why, r, x, got, ok)
	}
	if ok && !impl.GoodReaders(got) {
		t.Errorf("%s: StepReaders %v %v: not good: %v", why, r, x, got)
	}
	return got, ok
}

func wantReadersSteps(t *testing.T, why string, r impl.Readers) {
	t.Helper()
	wantReaders(t, why, r)
	for _, x := range readersStepsOn(r) {
		wantReadersStep(t, why, r, x)
	}
}

// wantReadersChanged asks of a step that it leads to a group as the change tells.
func wantReadersChanged(t *testing.T, why string, r impl.Readers, x impl.GroupStep, change func(r *impl.Readers)) {
	t.Helper()
	want := copyOfReaders(r)
	change(&want)
	if got, ok := impl.StepReaders(r, x); !ok || !sameReaders(got, want) || !impl.GoodReaders(got) {
		t.Errorf("%s: StepReaders %v %v: %v %v", why, r, x, got, ok)
	}
}

// wantNoReadersStep asks that nothing is handed out of a step of a good group.
func wantNoReadersStep(t *testing.T, why string, r impl.Readers, x impl.GroupStep) {
	t.Helper()
	if !impl.GoodReaders(r) {
		t.Errorf("%s: not good: %v", why, r)
	}
	if got, ok := impl.StepReaders(r, x); ok || !sameReaders(got, impl.Readers{}) {
		t.Errorf("%s: StepReaders %v %v: %v %v", why, r, x, got, ok)
	}
}

func wantReadersPlay(t *testing.T, why string, readers int, ends []int, l []impl.GroupStep) {
	t.Helper()
	want, wantDid, wanted := plainReadersPlay(readers, ends, l)
	got, did, ok := impl.PlayReaders(readers, ends, l)
	if !sameReaders(got, want) || !slices.Equal(did, wantDid) || ok != wanted {
		t.Errorf("%s: PlayReaders %d %v %v: %v %v %v", why, readers, ends, l, got, did, ok)
	}
}

func TestTheNamedNumbersOfReaders(t *testing.T) {
	got := []int{impl.MaxReaders, impl.MaxShares, impl.MaxGroupSteps, impl.GsJoin, impl.GsLeave, impl.GsSync, impl.GsRead, impl.GsCommit}
	if !slices.Equal(got, []int{5, 6, 80, 1, 2, 3, 4, 5}) {
		t.Error(got)
	}
}

func wantFresh(t *testing.T, readers int, ends []int) {
	t.Helper()
	r, ok := impl.NewReaders(readers, ends)
	if !ok || r.Generation != 0 || len(r.Readers) != readers || !slices.Equal(r.Ends, ends) || !impl.GoodReaders(r) {
		t.Error(readers, ends, r, ok)
	}
	if !slices.Equal(r.Committed, make([]int, len(ends))) {
		t.Error("something is committed", readers, ends, r)
	}
	for k, m := range r.Readers {
		if m.In || m.Generation != 0 || len(m.Share) != 0 || !slices.Equal(m.Read, make([]int, len(ends))) {
			t.Error("a reader is not fresh", readers, ends, k, m)
		}
	}
}

func wantNoReaders(t *testing.T, readers int, ends []int) {
	t.Helper()
	if r, ok := impl.NewReaders(readers, ends); ok || !sameReaders(r, impl.Readers{}) {
		t.Error(readers, ends, r, ok)
	}
	if r, did, ok := impl.PlayReaders(readers, ends, []impl.GroupStep{gsJoin(0)}); ok || len(did) != 0 || !sameReaders(r, impl.Readers{}) {
		t.Error(readers, ends, r, did, ok)
	}
}

func TestNewReaders(t *testing.T) {
	for readers := 1; readers <= 5; readers++ {
		for parts := 1; parts <= 6; parts++ {
			wantFresh(t, readers, steps(parts, 0, 20))
			wantFresh(t, readers, make([]int, parts))
			wantFresh(t, readers, slices.Repeat([]int{100}, parts))
			for at := range parts {
				for _, end := range []int{-2, -1, 101, 102} {
					ends := steps(parts, 3, 1)
					ends[at] = end
					wantNoReaders(t, readers, ends)
				}
			}
		}
		wantNoReaders(t, readers, nil)
		wantNoReaders(t, readers, make([]int, 7))
		wantNoReaders(t, readers, make([]int, 8))
	}
	for _, readers := range []int{-2, -1, 0, 6, 7} {
		wantNoReaders(t, readers, []int{5, 3})
	}
}

// reading is a group of five, three of them In: 0 and 3 know its Generation, and 4
// reads on with a Share of an elder one. 1 and 2 are not In.
func reading() impl.Readers {
	return impl.Readers{
		Generation: 6,
		Readers: []impl.Reader{
			{In: true, Generation: 6, Share: []int{0, 3}, Read: []int{5, 0, 0, 2, 0, 0}},
			{Read: make([]int, 6)},
			{Read: make([]int, 6)},
			{In: true, Generation: 6, Share: []int{1, 4}, Read: []int{0, 4, 0, 0, 0, 0}},
			{In: true, Generation: 4, Share: []int{0, 1, 5}, Read: []int{8, 2, 0, 0, 0, 3}},
		},
		Committed: []int{3, 4, 7, 0, 0, 0},
		Ends:      []int{9, 8, 7, 100, 0, 4},
	}
}

func changedReaders(change func(r *impl.Readers)) impl.Readers {
	r := reading()
	change(&r)
	return r
}

func someReaders() map[string]impl.Readers {
	all := map[string]impl.Readers{
		"new, one of one":   plainReaders(1, 0),
		"new, two of two":   plainReaders(2, 5, 3),
		"new, five of six":  plainReaders(5, 1, 2, 3, 4, 5, 100),
		"reading":           reading(),
		"one joined":        readersAfter(plainReaders(2, 5, 3), gsJoin(1)),
		"one synced":        readersAfter(plainReaders(2, 5, 3), gsJoin(1), gsSync(1)),
		"all read":          readersAfter(plainReaders(1, 5, 3), gsJoin(0), gsSync(0), gsRead(0, 0, 5), gsCommit(0, 0), gsRead(0, 1, 3), gsCommit(0, 1)),
		"all synced":        allSynced(5, 3, 3, 3),
		"fewer than shares": allSynced(2, 100, 100, 100, 100, 100),
	}
	for why, change := range goodReadersChanges() {
		all[why] = changedReaders(change)
	}
	return all
}

// allSynced are so many who came and all know the newest Generation.
func allSynced(readers int, ends ...int) impl.Readers {
	r := plainReaders(readers, ends...)
	for k := range readers {
		r = readersAfter(r, gsJoin(k))
	}
	for k := range readers {
		r = readersAfter(r, gsSync(k))
	}
	return r
}

// goodReadersChanges each leave reading good.
func goodReadersChanges() map[string]func(r *impl.Readers) {
	return map[string]func(r *impl.Readers){
		"a Generation of 1000":              func(r *impl.Readers) { r.Generation = 1000 },
		"of 1000, known":                    func(r *impl.Readers) { *r = withGeneration(*r, 1000) },
		"of 999, known":                     func(r *impl.Readers) { *r = withGeneration(*r, 999) },
		"a Generation of 0, known":          func(r *impl.Readers) { *r = withGeneration(*r, 0) },
		"a Generation of one more":          func(r *impl.Readers) { r.Generation = 7 },
		"a reader's Generation of 0":        func(r *impl.Readers) { r.Readers[4].Generation = 0 },
		"of 0, without a Share":             func(r *impl.Readers) { r.Readers[4] = impl.Reader{In: true, Read: make([]int, 6)} },
		"a reader's Generation of one less": func(r *impl.Readers) { r.Readers[4].Generation = 5 },
		"of the group's, with ShareOf":      func(r *impl.Readers) { r.Readers[4] = knowing(6, []int{2, 5}, 0, 0, 1, 0, 0, 3) },
		"of the group's, nothing read":      func(r *impl.Readers) { r.Readers[4] = knowing(6, []int{2, 5}, 0, 0, 0, 0, 0, 0) },
		"an elder Share of all":             func(r *impl.Readers) { r.Readers[4].Share = steps(6, 0, 1) },
		"an elder Share of none":            func(r *impl.Readers) { r.Readers[4] = knowing(4, nil, 0, 0, 0, 0, 0, 0) },
		"an elder Share as ShareOf":         func(r *impl.Readers) { r.Readers[4] = knowing(4, []int{2, 5}, 0, 0, 7, 0, 0, 0) },
		"an elder Share as another one's":   func(r *impl.Readers) { r.Readers[4] = knowing(5, []int{0, 3}, 9, 0, 0, 100, 0, 0) },
		"a Read of 0":                       func(r *impl.Readers) { r.Readers[0].Read[0] = 0 },
		"a Read of its End":                 func(r *impl.Readers) { r.Readers[0].Read[0], r.Readers[0].Read[3] = 9, 100 },
		"a Read below what is Committed":    func(r *impl.Readers) { r.Readers[0].Read[0] = 2 },
		"an elder Read of its End":          func(r *impl.Readers) { r.Readers[4].Read[0] = 9 },
		"nothing Committed":                 func(r *impl.Readers) { r.Committed = make([]int, 6) },
		"all Committed":                     func(r *impl.Readers) { r.Committed = slices.Clone(r.Ends) },
		"an End of 100":                     func(r *impl.Readers) { r.Ends[1] = 100 },
		"an End at what is Committed":       func(r *impl.Readers) { r.Ends[1] = 4 },
		"nobody In":                         func(r *impl.Readers) { *r = emptied(*r) },
		"nobody In, of 0":                   func(r *impl.Readers) { *r = emptied(*r); r.Generation = 0 },
		"all three of an elder Generation":  func(r *impl.Readers) { r.Readers[0].Generation, r.Readers[3].Generation = 5, 0 },
		"one that is not In leaves the end": func(r *impl.Readers) { r.Readers = append(r.Readers[:2:2], r.Readers[3:]...) },
	}
}

func knowing(generation int, share []int, read ...int) impl.Reader {
	return impl.Reader{In: true, Generation: generation, Share: share, Read: read}
}

// withGeneration has one Generation, and all who are In know it.
func withGeneration(r impl.Readers, generation int) impl.Readers {
	r.Generation = generation
	r.Readers[4].Share, r.Readers[4].Read = []int{2, 5}, make([]int, 6)
	for _, k := range []int{0, 3, 4} {
		r.Readers[k].Generation = generation
	}
	return r
}

// emptied is the group with nobody In; what is Committed stays.
func emptied(r impl.Readers) impl.Readers {
	for k := range r.Readers {
		r.Readers[k] = impl.Reader{Read: make([]int, len(r.Ends))}
	}
	return r
}

func badReaders() map[string]impl.Readers {
	all := map[string]impl.Readers{
		"nothing at all":             {},
		"no reader":                  plainReaders(0, 5, 3),
		"six readers":                plainReaders(6, 5, 3),
		"no part":                    plainReaders(2),
		"no part, one In":            {Readers: []impl.Reader{{In: true}}},
		"seven parts":                plainReaders(2, 1, 2, 3, 4, 5, 6, 7),
		"an End of -1":               plainReaders(2, 5, -1),
		"an End of 101":              plainReaders(2, 101, 5),
		"a Generation of -1, new":    {Generation: -1, Readers: plainReaders(2, 5).Readers, Committed: []int{0}, Ends: []int{5}},
		"a Generation of 1001, new":  {Generation: 1001, Readers: plainReaders(2, 5).Readers, Committed: []int{0}, Ends: []int{5}},
		"a reader of -1 in 0":        {Readers: []impl.Reader{knowing(-1, []int{0}, 0)}, Committed: []int{0}, Ends: []int{5}},
		"one In at once, no Share":   {Readers: []impl.Reader{knowing(0, nil, 0)}, Committed: []int{0}, Ends: []int{5}},
		"two In at once, all shared": {Readers: []impl.Reader{knowing(0, []int{0}, 0), knowing(0, []int{0}, 0)}, Committed: []int{0}, Ends: []int{5}},
	}
	for why, change := range badReadersChanges() {
		all[why] = changedReaders(change)
	}
	for why, change := range badReaderChanges() {
		all["one In: "+why] = changedReaders(func(r *impl.Readers) { change(&r.Readers[4]) })
		all["one who knows: "+why] = changedReaders(func(r *impl.Readers) { change(&r.Readers[3]) })
	}
	for why, change := range badOutsiders() {
		for _, k := range []int{1, 2} {
			all[fmt.Sprint("one not In: ", k, why)] = changedReaders(func(r *impl.Readers) { change(&r.Readers[k]) })
		}
	}
	return all
}

// badReadersChanges each spoil reading by one thing.
func badReadersChanges() map[string]func(r *impl.Readers) {
	return map[string]func(r *impl.Readers){
		"a Generation of -1":               func(r *impl.Readers) { *r = emptied(*r); r.Generation = -1 },
		"a Generation of 1001":             func(r *impl.Readers) { r.Generation = 1001 },
		"a Generation of 1001, nobody In":  func(r *impl.Readers) { *r = emptied(*r); r.Generation = 1001 },
		"a Generation of one less":         func(r *impl.Readers) { r.Generation = 5 },
		"a Generation of 0":                func(r *impl.Readers) { r.Generation = 0 },
		"a Generation of 4":                func(r *impl.Readers) { r.Generation, r.Readers[0].Generation, r.Readers[3].Generation = 4, 4, 4 },
		"a Committed of -1":                func(r *impl.Readers) { r.Committed[3] = -1 },
		"a Committed above its End":        func(r *impl.Readers) { r.Committed[0] = 10 },
		"a last Committed above its End":   func(r *impl.Readers) { r.Committed[5] = 5 },
		"a Committed of 1, its End 0":      func(r *impl.Readers) { r.Committed[4] = 1 },
		"one Committed fewer":              func(r *impl.Readers) { r.Committed = r.Committed[:5] },
		"one Committed more":               func(r *impl.Readers) { r.Committed = append(r.Committed, 0) },
		"nothing as Committed":             func(r *impl.Readers) { r.Committed = nil },
		"one End fewer":                    func(r *impl.Readers) { r.Ends = r.Ends[:5] },
		"one End more":                     func(r *impl.Readers) { r.Ends = append(r.Ends, 0) },
		"no Ends":                          func(r *impl.Readers) { r.Ends = nil },
		"no parts at all":                  func(r *impl.Readers) { r.Ends, r.Committed = nil, nil },
		"one End of -1":                    func(r *impl.Readers) { r.Ends[4] = -1 },
		"one End of 101":                   func(r *impl.Readers) { r.Ends[3] = 101 },
		"an End below what is Committed":   func(r *impl.Readers) { r.Ends[2] = 6 },
		"an End below what is Read":        func(r *impl.Readers) { r.Ends[0] = 7 },
		"one reader more":                  func(r *impl.Readers) { r.Readers = append(r.Readers, impl.Reader{Read: make([]int, 6)}) },
		"no readers":                       func(r *impl.Readers) { r.Readers = nil },
		"without one In":                   func(r *impl.Readers) { r.Readers = r.Readers[:4] },
		"one In less, the others know it":  func(r *impl.Readers) { r.Readers[4] = impl.Reader{Read: make([]int, 6)} },
		"one In more, the others know it":  func(r *impl.Readers) { r.Readers[1].In = true },
		"one of the group's, elder Share":  func(r *impl.Readers) { r.Readers[4].Generation = 6 },
		"of the group's, without a Share":  func(r *impl.Readers) { r.Readers[4] = knowing(6, nil, 0, 0, 0, 0, 0, 0) },
		"of the group's, one part less":    func(r *impl.Readers) { r.Readers[4] = knowing(6, []int{2}, 0, 0, 0, 0, 0, 0) },
		"of the group's, one part more":    func(r *impl.Readers) { r.Readers[4] = knowing(6, []int{2, 4, 5}, 0, 0, 0, 0, 0, 0) },
		"of the group's, another's Share":  func(r *impl.Readers) { r.Readers[4] = knowing(6, []int{0, 3}, 0, 0, 0, 0, 0, 0) },
		"of the group's, not in order":     func(r *impl.Readers) { r.Readers[4] = knowing(6, []int{5, 2}, 0, 0, 0, 0, 0, 0) },
		"two who know, their Share turned": func(r *impl.Readers) { r.Readers[0], r.Readers[3] = r.Readers[3], r.Readers[0] },
		"the first one who knows without":  func(r *impl.Readers) { r.Readers[0] = knowing(6, []int{0}, 5, 0, 0, 0, 0, 0) },
	}
}

// badReaderChanges are wrong for any who is In.
func badReaderChanges() map[string]func(m *impl.Reader) {
	return map[string]func(m *impl.Reader){
		"a Generation of -1":             func(m *impl.Reader) { m.Generation = -1 },
		"a Generation of one more":       func(m *impl.Reader) { m.Generation = 7 },
		"a Generation far above":         func(m *impl.Reader) { m.Generation = 1001 },
		"a Share that falls":             func(m *impl.Reader) { m.Share = []int{4, 1} },
		"a Share with a part twice":      func(m *impl.Reader) { m.Share = []int{0, 1, 1, 4, 5} },
		"a Share with -1":                func(m *impl.Reader) { m.Share = append([]int{-1}, m.Share...) },
		"a Share with 6":                 func(m *impl.Reader) { m.Share = append(slices.Clone(m.Share), 6) },
		"a Share with 64":                func(m *impl.Reader) { m.Share = append(slices.Clone(m.Share), 64) },
		"a Read of -1":                   func(m *impl.Reader) { m.Read[1] = -1 },
		"a Read of -1 not in its Share":  func(m *impl.Reader) { m.Read[2] = -1 },
		"a Read above its End":           func(m *impl.Reader) { m.Read[1] = 9 },
		"a Read far above its End":       func(m *impl.Reader) { m.Read[1] = 101 },
		"a Read that is not in its part": func(m *impl.Reader) { m.Read[2] = 1 },
		"a Read of no Share at its End":  func(m *impl.Reader) { m.Read[2] = 7 },
		"a Read too short":               func(m *impl.Reader) { m.Read = m.Read[:5] },
		"a Read too long":                func(m *impl.Reader) { m.Read = append(m.Read, 0) },
		"no Read":                        func(m *impl.Reader) { m.Read = nil },
		"not In, with all else":          func(m *impl.Reader) { m.In = false },
	}
}

// badOutsiders are wrong for any who is not In.
func badOutsiders() map[string]func(m *impl.Reader) {
	return map[string]func(m *impl.Reader){
		"a Generation of 1":        func(m *impl.Reader) { m.Generation = 1 },
		"a Generation of the rest": func(m *impl.Reader) { m.Generation = 6 },
		"a Generation of -1":       func(m *impl.Reader) { m.Generation = -1 },
		"a Share":                  func(m *impl.Reader) { m.Share = []int{0} },
		"a Share of all":           func(m *impl.Reader) { m.Share = steps(6, 0, 1) },
		"a Share and a Read":       func(m *impl.Reader) { m.Share, m.Read[0] = []int{0}, 1 },
		"a Read":                   func(m *impl.Reader) { m.Read[0] = 1 },
		"a last Read":              func(m *impl.Reader) { m.Read[5] = 1 },
		"a Read of -1":             func(m *impl.Reader) { m.Read[0] = -1 },
		"Reads of 1 and -1":        func(m *impl.Reader) { m.Read[0], m.Read[1] = 1, -1 },
		"a Read too short":         func(m *impl.Reader) { m.Read = m.Read[:5] },
		"a Read too long":          func(m *impl.Reader) { m.Read = append(m.Read, 0) },
		"no Read":                  func(m *impl.Reader) { m.Read = nil },
	}
}

func TestGoodReaders(t *testing.T) {
	for why, r := range someReaders() {
		if !impl.GoodReaders(r) {
			t.Error("not good:", why, r)
		}
		wantReadersSteps(t, why, r)
	}
	for why, r := range badReaders() {
		if impl.GoodReaders(r) {
			t.Error("good:", why, r)
		}
		wantReadersSteps(t, why, r)
	}
}

// Of a group that is not good nothing is told, whatever it is asked.
func TestBadReadersTellNothing(t *testing.T) {
	for why, r := range badReaders() {
		for _, x := range readersStepsOn(reading()) {
			if got, ok := impl.StepReaders(r, x); ok || !sameReaders(got, impl.Readers{}) {
				t.Error(why, x, got, ok)
			}
		}
		for k := range 7 {
			if l, ok := impl.ShareOf(r, k); ok || len(l) != 0 {
				t.Error(why, k, l, ok)
			}
			if owner, ok := impl.OwnerOf(r, k); ok || owner != 0 {
				t.Error(why, k, owner, ok)
			}
		}
		if n, ok := impl.LeftToRead(r); ok || n != 0 {
			t.Error(why, n, ok)
		}
	}
}

func TestGsJoin(t *testing.T) {
	r := reading()
	for _, k := range []int{1, 2} {
		wantReadersChanged(t, "who is not In", r, gsJoin(k), func(r *impl.Readers) { r.Generation, r.Readers[k].In = 7, true })
	}
	for _, k := range []int{0, 3, 4} {
		wantNoReadersStep(t, "who is In", r, gsJoin(k))
	}
	for _, k := range []int{-1, 5, 6} {
		wantNoReadersStep(t, "who is not there", r, gsJoin(k))
	}
	r.Generation = 999
	wantReadersChanged(t, "the last Generation", r, gsJoin(1), func(r *impl.Readers) { r.Generation, r.Readers[1].In = 1000, true })
	r.Generation = 1000
	wantNoReadersStep(t, "one more", r, gsJoin(1))
}

// Who comes knows nothing: neither the Generation that it made, nor a Share, nor
// what it had when it left.
func TestWhoJoinsKnowsNothing(t *testing.T) {
	for _, before := range []impl.Readers{plainReaders(5, 4, 4, 4, 4, 4, 4), readersAfter(reading(), gsLeave(0), gsLeave(3), gsLeave(4))} {
		for k := range before.Readers {
			r, ok := impl.StepReaders(before, gsJoin(k))
			m := r.Readers[k]
			if !ok || !m.In || m.Generation != 0 || len(m.Share) != 0 || !slices.Equal(m.Read, make([]int, 6)) || r.Generation != before.Generation+1 {
				t.Error(k, r, ok)
			}
			for part := range r.Ends {
				wantNoReadersStep(t, "it has no Share to read", r, gsRead(k, part, 1))
				wantNoReadersStep(t, "nor to commit", r, gsCommit(k, part))
				if owner, ok := impl.OwnerOf(r, part); ok {
					t.Error("somebody owns it", k, part, owner)
				}
			}
			wantReadersChanged(t, "it gets one by a sync", r, gsSync(k), func(g *impl.Readers) {
				g.Readers[k] = knowing(r.Generation, steps(6, 0, 1), r.Committed...)
			})
		}
	}
}

func TestGsLeave(t *testing.T) {
	r := reading()
	for _, k := range []int{0, 3, 4} {
		wantReadersChanged(t, "who is In, among others", r, gsLeave(k), func(r *impl.Readers) {
			r.Generation, r.Readers[k] = 7, impl.Reader{Read: make([]int, 6)}
		})
	}
	for _, k := range []int{1, 2} {
		wantNoReadersStep(t, "who is not In", r, gsLeave(k))
	}
	for _, k := range []int{-1, 5, 6} {
		wantNoReadersStep(t, "who is not there", r, gsLeave(k))
	}
	alone := readersAfter(plainReaders(2, 5, 3), gsJoin(1), gsSync(1), gsRead(1, 0, 4), gsCommit(1, 0), gsRead(1, 1, 2))
	wantReadersChanged(t, "the only one", alone, gsLeave(1), func(r *impl.Readers) {
		r.Generation, r.Readers[1] = 2, impl.Reader{Read: []int{0, 0}}
	})
	joined := readersAfter(plainReaders(2, 5, 3), gsJoin(0))
	wantReadersChanged(t, "one who knows nothing yet", joined, gsLeave(0), func(r *impl.Readers) { r.Generation, r.Readers[0].In = 2, false })
	r.Generation = 999
	wantReadersChanged(t, "the last Generation", r, gsLeave(4), func(r *impl.Readers) {
		r.Generation, r.Readers[4] = 1000, impl.Reader{Read: make([]int, 6)}
	})
	r.Generation = 1000
	wantNoReadersStep(t, "one more", r, gsLeave(4))
}

func TestGsSync(t *testing.T) {
	r := reading()
	wantReadersChanged(t, "who knows an elder one", r, gsSync(4), func(r *impl.Readers) {
		r.Readers[4] = knowing(6, []int{2, 5}, 0, 0, 7, 0, 0, 0)
	})
	for _, k := range []int{0, 3} {
		wantNoReadersStep(t, "who knows it already", r, gsSync(k))
	}
	for _, k := range []int{1, 2} {
		wantNoReadersStep(t, "who is not In", r, gsSync(k))
	}
	for _, k := range []int{-1, 5, 6} {
		wantNoReadersStep(t, "who is not there", r, gsSync(k))
	}
	r.Generation = 7
	wantReadersChanged(t, "what was read and not committed is not kept", r, gsSync(0), func(r *impl.Readers) {
		r.Readers[0] = knowing(7, []int{0, 3}, 3, 0, 0, 0, 0, 0)
	})
	r.Readers[0].Read[0] = 1
	wantReadersChanged(t, "what another one committed is not read again", r, gsSync(0), func(r *impl.Readers) {
		r.Readers[0] = knowing(7, []int{0, 3}, 3, 0, 0, 0, 0, 0)
	})
	wantReadersChanged(t, "the second one of three", r, gsSync(3), func(r *impl.Readers) {
		r.Readers[3] = knowing(7, []int{1, 4}, 0, 4, 0, 0, 0, 0)
	})
	same := changedReaders(func(r *impl.Readers) { r.Readers[4] = knowing(5, []int{2, 5}, 0, 0, 7, 0, 0, 0) })
	wantReadersChanged(t, "the same Share, of an elder Generation", same, gsSync(4), func(r *impl.Readers) { r.Readers[4].Generation = 6 })
	last := changedReaders(func(r *impl.Readers) { r.Generation = 1000 })
	wantReadersChanged(t, "the last Generation", last, gsSync(4), func(r *impl.Readers) {
		r.Readers[4] = knowing(1000, []int{2, 5}, 0, 0, 7, 0, 0, 0)
	})
}

func TestGsSyncOfMoreReadersThanParts(t *testing.T) {
	r := plainReaders(5, 9, 9)
	r.Committed = []int{4, 6}
	for k := range 5 {
		r = readersAfter(r, gsJoin(k))
	}
	for k, want := range [][]int{{0}, {1}, nil, nil, nil} {
		wantReadersChanged(t, "some get none", r, gsSync(k), func(r *impl.Readers) {
			r.Readers[k].Generation, r.Readers[k].Share = 5, want
			for _, part := range want {
				r.Readers[k].Read[part] = r.Committed[part]
			}
		})
	}
	r = readersAfter(r, gsSync(4))
	wantNoReadersStep(t, "it knows it, though it has no part", r, gsSync(4))
}

func TestGsRead(t *testing.T) {
	r := reading()
	for _, c := range []struct{ n, want int }{{1, 6}, {2, 7}, {3, 8}, {4, 9}, {5, 9}, {100, 9}, {math.MaxInt - 1, 9}, {math.MaxInt, 9}} {
		wantReadersChanged(t, "up to its End", r, gsRead(0, 0, c.n), func(r *impl.Readers) { r.Readers[0].Read[0] = c.want })
	}
	for _, n := range []int{math.MinInt, -2, -1, 0} {
		wantNoReadersStep(t, "nothing at all", r, gsRead(0, 0, n))
		wantNoReadersStep(t, "nothing of a part with the End 0", r, gsRead(3, 4, n))
	}
	for _, c := range []struct{ n, want int }{{1, 3}, {97, 99}, {98, 100}, {99, 100}, {math.MaxInt, 100}} {
		wantReadersChanged(t, "the other part", r, gsRead(0, 3, c.n), func(r *impl.Readers) { r.Readers[0].Read[3] = c.want })
	}
	for _, n := range []int{1, 2, math.MaxInt} {
		wantReadersChanged(t, "there is nothing in it", r, gsRead(3, 4, n), func(r *impl.Readers) {})
	}
	for _, k := range []int{1, 2} {
		wantNoReadersStep(t, "who is not In", r, gsRead(k, 0, 1))
	}
	for _, k := range []int{-1, 5, 6} {
		wantNoReadersStep(t, "who is not there", r, gsRead(k, 0, 1))
	}
	for k, parts := range map[int][]int{0: {-1, 1, 2, 4, 5, 6, 7}, 3: {-1, 0, 2, 3, 5, 6}, 4: {-1, 2, 3, 4, 6, 64}} {
		for _, part := range parts {
			wantNoReadersStep(t, "no part of its Share", r, gsRead(k, part, 1))
		}
	}
	end := changedReaders(func(r *impl.Readers) { r.Readers[0].Read[0] = 9 })
	wantReadersChanged(t, "it is at the End", end, gsRead(0, 0, 1), func(r *impl.Readers) {})
}

// Who was left behind reads on from its elder Share, of parts that are another one's
// by now, too.
func TestGsReadByOneWhoseGenerationIsOver(t *testing.T) {
	r := reading()
	wantReadersChanged(t, "a part that is another one's", r, gsRead(4, 0, 1), func(r *impl.Readers) { r.Readers[4].Read[0] = 9 })
	wantReadersChanged(t, "another such part", r, gsRead(4, 1, 3), func(r *impl.Readers) { r.Readers[4].Read[1] = 5 })
	wantReadersChanged(t, "a part that will be its own", r, gsRead(4, 5, 9), func(r *impl.Readers) { r.Readers[4].Read[5] = 4 })
	wantNoReadersStep(t, "a part that would be its own", r, gsRead(4, 2, 1))
	wantNoReadersStep(t, "nothing", r, gsRead(4, 0, 0))
}

func TestGsCommit(t *testing.T) {
	r := reading()
	wantReadersChanged(t, "what was read", r, gsCommit(0, 0), func(r *impl.Readers) { r.Committed[0] = 5 })
	wantReadersChanged(t, "of the other part", r, gsCommit(0, 3), func(r *impl.Readers) { r.Committed[3] = 2 })
	wantNoReadersStep(t, "as much as is Committed", r, gsCommit(3, 1))
	wantNoReadersStep(t, "nothing at all", r, gsCommit(3, 4))
	less := changedReaders(func(r *impl.Readers) { r.Readers[0].Read[0] = 2 })
	wantNoReadersStep(t, "less than is Committed", less, gsCommit(0, 0))
	full := changedReaders(func(r *impl.Readers) { r.Readers[0].Read[0], r.Readers[0].Read[3] = 9, 100 })
	wantReadersChanged(t, "up to the End", full, gsCommit(0, 0), func(r *impl.Readers) { r.Committed[0] = 9 })
	wantReadersChanged(t, "up to an End of 100", full, gsCommit(0, 3), func(r *impl.Readers) { r.Committed[3] = 100 })
	for part := range 6 {
		wantNoReadersStep(t, "whose Generation is over", r, gsCommit(4, part))
		for _, k := range []int{1, 2} {
			wantNoReadersStep(t, "who is not In", r, gsCommit(k, part))
		}
		for _, k := range []int{-1, 5, 6} {
			wantNoReadersStep(t, "who is not there", r, gsCommit(k, part))
		}
	}
	for _, part := range []int{-1, 1, 2, 4, 5, 6, 7} {
		wantNoReadersStep(t, "no part of its Share", r, gsCommit(0, part))
	}
	over := changedReaders(func(r *impl.Readers) { r.Generation = 7 })
	for part := range 6 {
		wantNoReadersStep(t, "its Generation is over", over, gsCommit(0, part))
	}
	same := changedReaders(func(r *impl.Readers) { r.Readers[4] = knowing(5, []int{2, 5}, 0, 0, 0, 0, 0, 3) })
	wantNoReadersStep(t, "the same Share, but its Generation is over", same, gsCommit(4, 5))
}

// Each of these is done where the fields that it has no use for are zero.
func TestReadersStepsWithFieldsOfNoUse(t *testing.T) {
	r := reading()
	for _, x := range []impl.GroupStep{gsJoin(1), gsLeave(0), gsLeave(4), gsSync(4), gsCommit(0, 0), gsCommit(0, 3)} {
		if _, ok := wantReadersStep(t, "as it is", r, x); !ok {
			t.Error(x)
		}
		for _, n := range []int{math.MinInt, -1, 1, 2, 3, 100, math.MaxInt} {
			y := x
			y.N = n
			wantNoReadersStep(t, "an N", r, y)
			if x.Kind == impl.GsCommit {
				continue
			}
			y.N, y.Part = 0, n
			wantNoReadersStep(t, "a Part", r, y)
			y.N = n
			wantNoReadersStep(t, "a Part and an N", r, y)
		}
	}
}

func TestReadersStepsThatAreNone(t *testing.T) {
	for why, r := range someReaders() {
		for k := -1; k <= 5; k++ {
			for _, kind := range []int{math.MinInt, -5, -1, 0, 6, 7, 100} {
				for n := range 3 {
					wantNoReadersStep(t, why+": no such kind", r, impl.GroupStep{Kind: kind, K: k, Part: n, N: n})
					wantNoReadersStep(t, why+": no such kind", r, impl.GroupStep{Kind: kind, K: k, N: n})
				}
			}
		}
	}
}

// The greatest Kind is GsCommit, and it is one.
func TestTheLastKindIsAStep(t *testing.T) {
	wantReadersChanged(t, "5", reading(), impl.GroupStep{Kind: 5}, func(r *impl.Readers) { r.Committed[0] = 5 })
	wantNoReadersStep(t, "6", reading(), impl.GroupStep{Kind: 6})
}

// The last reader is asked as all others are, the one behind it is not there.
func TestTheLastReader(t *testing.T) {
	for readers := 1; readers <= 5; readers++ {
		r := plainReaders(readers, 5, 3)
		last := readers - 1
		wantReadersChanged(t, "the last", r, gsJoin(last), func(r *impl.Readers) { r.Generation, r.Readers[last].In = 1, true })
		wantNoReadersStep(t, "behind it", r, gsJoin(readers))
		wantNoReadersStep(t, "ahead of all", r, gsJoin(-1))
		all := allSynced(readers, 100, 100, 100, 100, 100, 100)
		wantReadersChanged(t, "the last", all, gsRead(last, last, 7), func(r *impl.Readers) { r.Readers[last].Read[last] = 7 })
		wantNoReadersStep(t, "behind it", all, gsRead(readers, 0, 7))
	}
}

func TestShareOf(t *testing.T) {
	r := reading()
	for k, want := range map[int][]int{0: {0, 3}, 3: {1, 4}, 4: {2, 5}} {
		if l, ok := impl.ShareOf(r, k); !ok || !slices.Equal(l, want) {
			t.Error("In", k, l, ok)
		}
	}
	for _, k := range []int{-1, 1, 2, 5, 6} {
		if l, ok := impl.ShareOf(r, k); ok || len(l) != 0 {
			t.Error("not In, or not there", k, l, ok)
		}
	}
	for parts := 1; parts <= 6; parts++ {
		for k := range 5 {
			alone := readersAfter(plainReaders(5, make([]int, parts)...), gsJoin(k))
			if l, ok := impl.ShareOf(alone, k); !ok || !slices.Equal(l, steps(parts, 0, 1)) {
				t.Error("alone", parts, k, l, ok)
			}
		}
	}
	more := allSynced(5, 1, 1)
	for k, want := range [][]int{{0}, {1}, nil, nil, nil} {
		if l, ok := impl.ShareOf(more, k); !ok || !slices.Equal(l, want) {
			t.Error("more readers than parts", k, l, ok)
		}
	}
}

// Whoever is In, each part is in the Share of just one of them, and no Share has two
// parts more than another one.
func TestSharesOfAllWhoMayBeIn(t *testing.T) {
	for parts := 1; parts <= 6; parts++ {
		for bits := 1; bits < 32; bits++ {
			r := plainReaders(5, make([]int, parts)...)
			r.Generation = 1
			in := listOf(bits)
			for _, k := range in {
				r.Readers[k].In = true
			}
			wantReaders(t, "some In", r)
			taken := make([]int, parts)
			for place, k := range in {
				l, ok := impl.ShareOf(r, k)
				if !ok || len(l) < parts/len(in) || len(l) > (parts+len(in)-1)/len(in) {
					t.Error(parts, in, k, l, ok)
				}
				for _, part := range l {
					taken[part]++
					if part%len(in) != place {
						t.Error("its remainder is another one", parts, in, k, l)
					}
				}
			}
			if !slices.Equal(taken, slices.Repeat([]int{1}, parts)) {
				t.Error("not each one once", parts, in, taken)
			}
		}
	}
}

func TestOwnerOf(t *testing.T) {
	r := reading()
	for part, want := range map[int]int{0: 0, 3: 0, 1: 3, 4: 3} {
		if k, ok := impl.OwnerOf(r, part); !ok || k != want {
			t.Error("who knows the Generation", part, k, ok)
		}
	}
	for _, part := range []int{2, 5} {
		if k, ok := impl.OwnerOf(r, part); ok || k != 0 {
			t.Error("whose Generation is over", part, k, ok)
		}
	}
	for _, part := range []int{-1, 6, 7, 64} {
		if k, ok := impl.OwnerOf(r, part); ok || k != 0 {
			t.Error("not there", part, k, ok)
		}
	}
	synced := readersAfter(r, gsSync(4))
	for part, want := range []int{0, 3, 4, 0, 3, 4} {
		if k, ok := impl.OwnerOf(synced, part); !ok || k != want {
			t.Error("all know it", part, k, ok)
		}
	}
	for part := range 6 {
		for why, x := range map[string]impl.GroupStep{"one left": gsLeave(0), "one came": gsJoin(1)} {
			if k, ok := impl.OwnerOf(readersAfter(synced, x), part); ok || k != 0 {
				t.Error(why, part, k, ok)
			}
		}
		if k, ok := impl.OwnerOf(emptied(reading()), part); ok || k != 0 {
			t.Error("nobody is In", part, k, ok)
		}
		if k, ok := impl.OwnerOf(plainReaders(2, 1, 1, 1, 1, 1, 1), part); ok || k != 0 {
			t.Error("new", part, k, ok)
		}
	}
}

func TestLeftToRead(t *testing.T) {
	r := plainReaders(2, 5, 3)
	if n, ok := impl.LeftToRead(r); !ok || n != 8 {
		t.Error("at first", n, ok)
	}
	for i, x := range []impl.GroupStep{gsJoin(0), gsSync(0), gsRead(0, 0, 2), gsCommit(0, 0), gsRead(0, 0, 9), gsRead(0, 1, 3), gsCommit(0, 1), gsCommit(0, 0), gsLeave(0)} {
		r = readersAfter(r, x)
		if n, ok := impl.LeftToRead(r); !ok || n != []int{8, 8, 8, 6, 6, 6, 3, 0, 0}[i] {
			t.Error("behind", x, n, ok)
		}
	}
	if n, ok := impl.LeftToRead(reading()); !ok || n != 6+4+0+100+0+4 {
		t.Error("reading", n, ok)
	}
	if n, ok := impl.LeftToRead(plainReaders(1, 100, 100, 100, 100, 100, 100)); !ok || n != 600 {
		t.Error("as much as may be", n, ok)
	}
	if n, ok := impl.LeftToRead(plainReaders(1, 0)); !ok || n != 0 {
		t.Error("nothing", n, ok)
	}
}

func TestPlayReaders(t *testing.T) {
	for readers := 1; readers <= 5; readers++ {
		r, did, ok := impl.PlayReaders(readers, []int{5, 3}, nil)
		if !ok || len(did) != 0 || !sameReaders(r, plainReaders(readers, 5, 3)) {
			t.Error("no step", r, did, ok)
		}
	}
	l := []impl.GroupStep{
		gsSync(0), gsLeave(0), gsJoin(0), gsJoin(0), gsRead(0, 0, 1), gsSync(0), gsSync(0), gsRead(0, 0, 2), gsRead(0, 2, 1), {},
		gsCommit(0, 0), gsCommit(0, 0), gsJoin(1), gsRead(0, 1, 9), gsCommit(0, 1), gsSync(1), gsRead(1, 0, 1), gsRead(1, 1, 1), gsCommit(1, 1),
		gsJoin(2), gsSync(0), gsRead(0, 0, 0), gsRead(0, 0, 1), gsLeave(1), {Kind: 6}}
	want := impl.Readers{
		Generation: 3,
		Readers:    []impl.Reader{knowing(2, []int{0}, 3, 0), {Read: []int{0, 0}}},
		Committed:  []int{2, 1},
		Ends:       []int{5, 3},
	}
	done := []bool{false, false, true, false, false, true, false, true, false, false,
		true, false, true, true, false, true, false, true, true,
		false, true, false, true, true, false}
	r, did, ok := impl.PlayReaders(2, []int{5, 3}, l)
	if !ok || !sameReaders(r, want) || !slices.Equal(did, done) {
		t.Error(r, did, ok)
	}
}

func TestPlayReadersOfAtMostSoManySteps(t *testing.T) {
	l := slices.Repeat([]impl.GroupStep{gsJoin(1), gsLeave(1)}, 41)
	for _, many := range []int{0, 1, 2, 79, 80} {
		r, did, ok := impl.PlayReaders(2, []int{5, 3}, l[:many])
		if !ok || len(did) != many || slices.Contains(did, false) || r.Generation != many {
			t.Error(many, r, did, ok)
		}
		wantReadersPlay(t, "steps", 2, []int{5, 3}, l[:many])
	}
	for _, l := range [][]impl.GroupStep{l[:81], l[:82], make([]impl.GroupStep, 81)} {
		if r, did, ok := impl.PlayReaders(2, []int{5, 3}, l); ok || len(did) != 0 || !sameReaders(r, impl.Readers{}) {
			t.Error("one more", r, did, ok)
		}
	}
	r, did, ok := impl.PlayReaders(4, []int{5, 3}, make([]impl.GroupStep, 80))
	if !ok || !slices.Equal(did, make([]bool, 80)) || !sameReaders(r, plainReaders(4, 5, 3)) {
		t.Error("none is done", r, did, ok)
	}
}

func TestRandomReadersAndSteps(t *testing.T) {
	r := newRandom()
	for range 500 {
		wantReadersSteps(t, "random", randomReaders(r))
	}
}

func TestAnyGoodReadersAndSteps(t *testing.T) {
	r := newRandom()
	for range 2000 {
		g := anyReaders(r)
		if !impl.GoodReaders(g) {
			t.Fatal(g)
		}
		wantReadersSteps(t, "any", g)
	}
}

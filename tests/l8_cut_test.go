package tests

import (
	"fmt"
	"slices"
	"testing"

	"loop.example/g00361/impl"
)

// Promise 8: in a world that PlaySnap made the picture that is taken while all
// goes on has just what there is.

// wantSnap holds all answers of a world but its steps against what the plain words
// tell.
func wantSnap(t *testing.T, why string, s impl.Snap) {
	t.Helper()
	if got, want := impl.GoodSnap(s), plainSnapGood(s); got != want {
		t.Errorf("%s: GoodSnap %v: %v", why, s, got)
	}
	want, wanted := plainOnWay(s)
	if got, ok := impl.OnWay(s); got != want || ok != wanted {
		t.Errorf("%s: OnWay %v: %v %v", why, s, got, ok)
	}
	want, wanted = plainPictureOf(s)
	if got, ok := impl.PictureOf(s); got != want || ok != wanted {
		t.Errorf("%s: PictureOf %v: %v %v", why, s, got, ok)
	}
	end, want, wanted := plainFinish(s)
	if got, many, ok := impl.FinishSnap(s); !sameSnap(got, end) || many != want || ok != wanted {
		t.Errorf("%s: FinishSnap %v: %v %v %v", why, s, got, many, ok)
	}
}

// wantStep does so of a step, and tells where it leads.
func wantStep(t *testing.T, why string, s impl.Snap, x impl.SnapStep) (impl.Snap, bool) {
	t.Helper()
	want, wanted := plainStep(s, x)
	got, ok := impl.StepSnap(s, x)
	if !sameSnap(got, want) || ok != wanted {
		t.Errorf("%s: StepSnap %v %v: %v %v", why, s, x, got, ok)
	}
	return got, ok
}

func wantSteps(t *testing.T, why string, s impl.Snap) {
	t.Helper()
	wantSnap(t, why, s)
	for _, x := range stepsOn(s) {
		wantStep(t, why, s, x)
	}
}

// wantDone asks of a step that it leads to a world as the change tells.
func wantDone(t *testing.T, why string, s impl.Snap, x impl.SnapStep, change func(s *impl.Snap)) {
	t.Helper()
	want := copyOfSnap(s)
	change(&want)
	if got, ok := impl.StepSnap(s, x); !ok || !sameSnap(got, want) {
		t.Errorf("%s: StepSnap %v %v: %v %v", why, s, x, got, ok)
	}
}

// wantRefused asks that nothing is handed out of a step.
func wantRefused(t *testing.T, why string, s impl.Snap, x impl.SnapStep) {
	t.Helper()
	if got, ok := impl.StepSnap(s, x); ok || !sameSnap(got, impl.Snap{}) {
		t.Errorf("%s: StepSnap %v %v: %v %v", why, s, x, got, ok)
	}
}

func wantPlay(t *testing.T, why string, procs, amount int, l []impl.SnapStep) {
	t.Helper()
	want, wantDid, wanted := plainPlay(procs, amount, l)
	got, did, ok := impl.PlaySnap(procs, amount, l)
	if !sameSnap(got, want) || !slices.Equal(did, wantDid) || ok != wanted {
		t.Errorf("%s: PlaySnap %d %d %v: %v %v %v", why, procs, amount, l, got, did, ok)
	}
}

func TestTheNamedNumbersOfCuts(t *testing.T) {
	got := []int{impl.MaxSnapSteps, impl.MaxOnWay, impl.SnSend, impl.SnTake, impl.SnBegin}
	if !slices.Equal(got, []int{80, 8, 1, 2, 3}) {
		t.Error(got)
	}
}

func TestNewSnap(t *testing.T) {
	for _, procs := range []int{-1, 0, 1, 2, 3, 4, 5} {
		for _, amount := range []int{-1, 0, 1, 250, 251} {
			good := procs >= 2 && procs <= 4 && amount >= 0 && amount <= 250
			var want impl.Snap
			if good {
				want = plainNew(procs, amount)
			}
			got, ok := impl.NewSnap(procs, amount)
			if ok != good || !sameSnap(got, want) {
				t.Error(procs, amount, got, ok)
			}
			if impl.GoodSnap(got) != good {
				t.Error("good", procs, amount)
			}
		}
	}
}

func TestWhatANewSnapHas(t *testing.T) {
	s, ok := impl.NewSnap(3, 250)
	if !ok || !slices.Equal(s.Amounts, []int{250, 250, 250}) || s.Total != 750 || s.Sent != 0 {
		t.Error(s, ok)
	}
	ends := [][2]int{{0, 1}, {0, 2}, {1, 0}, {1, 2}, {2, 0}, {2, 1}}
	if len(s.Chans) != len(ends) || len(s.Pictures) != 3 {
		t.Fatal(s)
	}
	for i, c := range s.Chans {
		if c.From != ends[i][0] || c.To != ends[i][1] || len(c.Way) != 0 {
			t.Error(i, c)
		}
	}
	for i, p := range s.Pictures {
		if p.Taken || p.Amount != 0 || !slices.Equal(p.In, []int{0, 0, 0}) || !slices.Equal(p.Closed, []bool{false, false, false}) {
			t.Error(i, p)
		}
	}
}

// midway is a world of three in which two have their pictures and one has not. The
// channels are 0 to 1, 0 to 2, 1 to 0, 1 to 2, 2 to 0 and 2 to 1.
func midway() impl.Snap {
	return worldOf(3, 10, snSend(2, 3), snBegin(0), snSend(0, 4), snTake(2), snTake(0), snSend(4, 2))
}

func changedWorld(change func(s *impl.Snap)) impl.Snap {
	s := midway()
	change(&s)
	return s
}

// onWayOnly is a world of two without pictures that have so much each and these
// things on their ways.
func onWayOnly(amounts []int, there, back []int) impl.Snap {
	s := plainNew(2, 0)
	s.Amounts = amounts
	s.Chans[0].Way, s.Chans[1].Way = there, back
	s.Total = added(amounts) + added(there) + added(back)
	return s
}

// ended is a whole picture of four with much of it In.
func ended() impl.Snap {
	s, _, ok := plainFinish(worldOf(4, 100, snSend(0, 7), snSend(3, 8), snSend(4, 9), snSend(9, 10), snSend(9, 11), snBegin(2), snBegin(1), snSend(3, 12), snTake(9)))
	if !ok {
		panic("not ended")
	}
	return s
}

func someWorlds() map[string]impl.Snap {
	ones := slices.Repeat([]int{1}, 8)
	return map[string]impl.Snap{
		"new, of two":            plainNew(2, 10),
		"new, of three":          plainNew(3, 10),
		"new, of four":           plainNew(4, 250),
		"new, with nothing":      plainNew(2, 0),
		"midway":                 midway(),
		"ended":                  ended(),
		"ended, with nothing":    worldOf(2, 0, snBegin(0), snTake(0), snTake(1)),
		"begun":                  worldOf(2, 5, snBegin(1)),
		"both begun":             worldOf(2, 5, snBegin(1), snSend(1, 2), snBegin(0)),
		"all with one":           onWayOnly([]int{1000, 0}, nil, nil),
		"all with the other":     onWayOnly([]int{0, 1000}, nil, nil),
		"all on the way":         onWayOnly([]int{0, 0}, []int{1000}, nil),
		"full":                   onWayOnly([]int{5, 5}, ones, nil),
		"the way back is full":   onWayOnly([]int{5, 5}, nil, ones),
		"both are full":          onWayOnly([]int{5, 5}, ones, ones),
		"nearly full":            onWayOnly([]int{5, 5}, ones[1:], ones[1:]),
		"full of amounts, mark":  worldOf(2, 9, slices.Concat(slices.Repeat([]impl.SnapStep{snSend(0, 1)}, 7), []impl.SnapStep{snBegin(0)})...),
		"sent as often as may":   changedWorld(func(s *impl.Snap) { s.Sent = 1000 }),
		"sent nearly so often":   changedWorld(func(s *impl.Snap) { s.Sent = 999 }),
		"never sent":             changedWorld(func(s *impl.Snap) { s.Sent = 0 }),
		"as much In as may":      changedWorld(func(s *impl.Snap) { s.Pictures[0].In[2] = 1000000 }),
		"nearly as much In":      changedWorld(func(s *impl.Snap) { s.Pictures[0].In[2] = 999999 }),
		"room In for just that":  changedWorld(func(s *impl.Snap) { s.Pictures[0].In[2] = 999998 }),
		"all In but for itself":  changedWorld(func(s *impl.Snap) { s.Pictures[1].In = []int{1000000, 0, 1000000} }),
		"a picture of 1000":      changedWorld(func(s *impl.Snap) { s.Pictures[0].Amount = 1000 }),
		"a picture of 0":         changedWorld(func(s *impl.Snap) { s.Pictures[0].Amount = 0 }),
		"a picture of much else": changedWorld(func(s *impl.Snap) { s.Pictures[0].Amount, s.Pictures[1].In[2] = 1000, 77 }),
	}
}

func badWorlds() map[string]impl.Snap {
	all := map[string]impl.Snap{
		"nothing at all":             {},
		"no processes":               plainNew(0, 0),
		"one process":                plainNew(1, 10),
		"five processes":             plainNew(5, 10),
		"an Amount below 0":          onWayOnly([]int{-1, 10}, nil, nil),
		"the last Amount below 0":    onWayOnly([]int{10, -1}, nil, nil),
		"an Amount above 1000":       onWayOnly([]int{1001, 0}, nil, nil),
		"an Amount above, Total not": onWayOnly([]int{1001, -1}, nil, nil),
		"a thing below 0":            onWayOnly([]int{10, 10}, []int{-1}, nil),
		"a thing below 0 behind":     onWayOnly([]int{10, 10}, []int{1, 2, -1}, nil),
		"a thing above 1000":         onWayOnly([]int{0, 0}, []int{1001}, nil),
		"one thing too many":         onWayOnly([]int{0, 0}, slices.Repeat([]int{1}, 9), nil),
		"one too many, back":         onWayOnly([]int{0, 0}, nil, slices.Repeat([]int{1}, 9)),
		"a Total above 1000":         onWayOnly([]int{500, 500}, []int{1}, nil),
		"marks, nothing begun":       onWayOnly([]int{5, 5}, []int{0}, []int{0}),
		"a mark, nothing begun":      onWayOnly([]int{5, 5}, nil, []int{1, 0}),
	}
	for why, change := range badChanges() {
		all[why] = changedWorld(change)
	}
	return all
}

// badChanges each spoil midway by one thing.
func badChanges() map[string]func(s *impl.Snap) {
	all := map[string]func(s *impl.Snap){
		"an Amount less":             func(s *impl.Snap) { s.Amounts = s.Amounts[:2] },
		"an Amount more":             func(s *impl.Snap) { s.Amounts = append(s.Amounts, 0) },
		"a Total too small":          func(s *impl.Snap) { s.Total-- },
		"a Total too great":          func(s *impl.Snap) { s.Total++ },
		"a Total of 0":               func(s *impl.Snap) { s.Total = 0 },
		"a Total without the way":    func(s *impl.Snap) { s.Total -= 6 },
		"sent -1":                    func(s *impl.Snap) { s.Sent = -1 },
		"sent 1001":                  func(s *impl.Snap) { s.Sent = 1001 },
		"no channels":                func(s *impl.Snap) { s.Chans = nil },
		"a channel less":             func(s *impl.Snap) { s.Chans = s.Chans[:5] },
		"the first channel less":     func(s *impl.Snap) { s.Chans = s.Chans[1:] },
		"a channel more":             func(s *impl.Snap) { s.Chans = append(s.Chans, impl.Chan{}) },
		"a channel twice":            func(s *impl.Snap) { s.Chans = append(s.Chans, impl.Chan{From: 2, To: 1}) },
		"a channel in place of one":  func(s *impl.Snap) { s.Chans[5] = impl.Chan{From: 1, To: 2, Way: []int{0}} },
		"two in another order":       func(s *impl.Snap) { s.Chans[4], s.Chans[5] = s.Chans[5], s.Chans[4] },
		"by To, then by From":        func(s *impl.Snap) { s.Chans[1], s.Chans[2] = s.Chans[2], s.Chans[1] },
		"all the other way round":    func(s *impl.Snap) { slices.Reverse(s.Chans) },
		"a channel to itself":        func(s *impl.Snap) { s.Chans[5].To = 2 },
		"a channel from itself":      func(s *impl.Snap) { s.Chans[5].From = 1 },
		"a channel turned":           func(s *impl.Snap) { s.Chans[5].From, s.Chans[5].To = 1, 2 },
		"a channel from nobody":      func(s *impl.Snap) { s.Chans[5].From = 3 },
		"a channel to nobody":        func(s *impl.Snap) { s.Chans[5].To = 3 },
		"a channel from below 0":     func(s *impl.Snap) { s.Chans[0].From = -1 },
		"a channel to below 0":       func(s *impl.Snap) { s.Chans[0].To = -1 },
		"a mark, not Taken":          func(s *impl.Snap) { s.Chans[5].Way = []int{0} },
		"a mark behind, not Taken":   func(s *impl.Snap) { s.Chans[4].Way = []int{2, 0} },
		"Closed, not Taken":          func(s *impl.Snap) { s.Pictures[0].Closed[2] = true },
		"Closed by two, not Taken":   func(s *impl.Snap) { s.Pictures[0].Closed[2], s.Pictures[1].Closed[2] = true, true },
		"two marks":                  func(s *impl.Snap) { s.Chans[2].Way = []int{0, 0} },
		"two marks apart":            func(s *impl.Snap) { s.Chans[1].Way, s.Total = []int{0, 5, 0}, s.Total+5 },
		"a mark and Closed":          func(s *impl.Snap) { s.Pictures[0].Closed[1] = true },
		"a mark where Closed before": func(s *impl.Snap) { s.Chans[0].Way = []int{4, 0} },
		"neither mark nor Closed":    func(s *impl.Snap) { s.Chans[2].Way = nil },
		"neither, to one not Taken":  func(s *impl.Snap) { s.Chans[3].Way = nil },
		"open again":                 func(s *impl.Snap) { s.Pictures[1].Closed[0] = false },
	}
	for why, change := range badPictures() {
		all[why] = change
	}
	return all
}

// badPictures spoil it in one picture.
func badPictures() map[string]func(s *impl.Snap) {
	return map[string]func(s *impl.Snap){
		"no pictures":                func(s *impl.Snap) { s.Pictures = nil },
		"a picture less":             func(s *impl.Snap) { s.Pictures = s.Pictures[:2] },
		"a picture more":             func(s *impl.Snap) { s.Pictures = append(s.Pictures, impl.Picture{}) },
		"an empty picture more":      func(s *impl.Snap) { s.Pictures = append(s.Pictures, plainNew(3, 0).Pictures[0]) },
		"not Taken, with an Amount":  func(s *impl.Snap) { s.Pictures[2].Amount = 1 },
		"not Taken, one below 0":     func(s *impl.Snap) { s.Pictures[2].Amount = -1 },
		"not Taken, with In":         func(s *impl.Snap) { s.Pictures[2].In[0] = 1 },
		"not Taken, with In below 0": func(s *impl.Snap) { s.Pictures[2].In[1] = -1 },
		"not Taken, its own In":      func(s *impl.Snap) { s.Pictures[2].In[2] = 1 },
		"not Taken, itself Closed":   func(s *impl.Snap) { s.Pictures[2].Closed[2] = true },
		"not Taken, with a Closed":   func(s *impl.Snap) { s.Pictures[2].Closed[0], s.Chans[1].Way = true, nil },
		"not Taken any more":         func(s *impl.Snap) { s.Pictures[0].Taken = false },
		"not Taken, all else zero":   func(s *impl.Snap) { s.Pictures[0] = plainNew(3, 0).Pictures[0] },
		"Taken, all else zero":       func(s *impl.Snap) { s.Pictures[2].Taken = true },
		"Taken, no marks":            func(s *impl.Snap) { s.Pictures[2].Taken, s.Pictures[2].Closed[2] = true, true },
		"an Amount of it below 0":    func(s *impl.Snap) { s.Pictures[0].Amount = -1 },
		"an Amount of it above 1000": func(s *impl.Snap) { s.Pictures[0].Amount = 1001 },
		"In below 0":                 func(s *impl.Snap) { s.Pictures[0].In[1] = -1 },
		"In above":                   func(s *impl.Snap) { s.Pictures[0].In[1] = 1000001 },
		"In above, Closed":           func(s *impl.Snap) { s.Pictures[1].In[0] = 1000001 },
		"In below 0, Closed":         func(s *impl.Snap) { s.Pictures[1].In[0] = -1 },
		"its own In":                 func(s *impl.Snap) { s.Pictures[0].In[0] = 1 },
		"its own In below 0":         func(s *impl.Snap) { s.Pictures[1].In[1] = -1 },
		"itself open":                func(s *impl.Snap) { s.Pictures[0].Closed[0] = false },
		"no In":                      func(s *impl.Snap) { s.Pictures[0].In = nil },
		"an In less":                 func(s *impl.Snap) { s.Pictures[0].In = s.Pictures[0].In[:2] },
		"an In more":                 func(s *impl.Snap) { s.Pictures[0].In = append(s.Pictures[0].In, 0) },
		"no Closed":                  func(s *impl.Snap) { s.Pictures[0].Closed = nil },
		"a Closed less":              func(s *impl.Snap) { s.Pictures[0].Closed = s.Pictures[0].Closed[:2] },
		"a Closed more":              func(s *impl.Snap) { s.Pictures[0].Closed = append(s.Pictures[0].Closed, false) },
		"not Taken, no In":           func(s *impl.Snap) { s.Pictures[2].In = nil },
		"not Taken, an In less":      func(s *impl.Snap) { s.Pictures[2].In = s.Pictures[2].In[:2] },
		"not Taken, an In more":      func(s *impl.Snap) { s.Pictures[2].In = append(s.Pictures[2].In, 0) },
		"not Taken, no Closed":       func(s *impl.Snap) { s.Pictures[2].Closed = nil },
		"not Taken, a Closed less":   func(s *impl.Snap) { s.Pictures[2].Closed = s.Pictures[2].Closed[:2] },
		"not Taken, a Closed more":   func(s *impl.Snap) { s.Pictures[2].Closed = append(s.Pictures[2].Closed, false) },
		"no lists":                   func(s *impl.Snap) { s.Pictures[2] = impl.Picture{} },
	}
}

func TestGoodWorlds(t *testing.T) {
	for why, s := range someWorlds() {
		if !impl.GoodSnap(s) {
			t.Error(why, s)
		}
		wantSteps(t, why, s)
	}
}

func TestBadWorlds(t *testing.T) {
	for why, s := range badWorlds() {
		if impl.GoodSnap(s) {
			t.Error(why, s)
		}
		if n, ok := impl.OnWay(s); n != 0 || ok {
			t.Error(why, n, ok)
		}
		if n, ok := impl.PictureOf(s); n != 0 || ok {
			t.Error(why, n, ok)
		}
		if got, n, ok := impl.FinishSnap(s); n != 0 || ok || !sameSnap(got, impl.Snap{}) {
			t.Error(why, got, n, ok)
		}
		for _, x := range stepsOn(s) {
			wantRefused(t, why, s, x)
		}
	}
}

func TestSend(t *testing.T) {
	s := onWayOnly([]int{5, 7}, []int{3}, nil)
	for _, n := range []int{1, 4, 5} {
		wantDone(t, "some of it", s, snSend(0, n), func(s *impl.Snap) {
			s.Amounts[0] -= n
			s.Chans[0].Way = append(s.Chans[0].Way, n)
			s.Sent = 1
		})
	}
	wantDone(t, "all the other way", s, snSend(1, 7), func(s *impl.Snap) {
		s.Amounts[1], s.Chans[1].Way, s.Sent = 0, []int{7}, 1
	})
	for _, n := range []int{-1, 0, 6, 1000, 1001} {
		wantRefused(t, "what it does not have", s, snSend(0, n))
	}
	for _, k := range []int{-1, 2, 3} {
		wantRefused(t, "no such channel", s, snSend(k, 1))
	}
	for _, n := range []int{0, 1} {
		wantRefused(t, "it has nothing", plainNew(2, 0), snSend(0, n))
	}
}

func TestSendWhereThereIsRoom(t *testing.T) {
	s := plainNew(2, 20)
	for i := range 8 {
		next, ok := impl.StepSnap(s, snSend(0, 1+i%2))
		if !ok || len(next.Chans[0].Way) != i+1 || next.Sent != i+1 {
			t.Fatal(i, next, ok)
		}
		s = next
	}
	wantRefused(t, "a full way", s, snSend(0, 1))
	wantDone(t, "the way back is not", s, snSend(1, 2), func(s *impl.Snap) {
		s.Amounts[1], s.Chans[1].Way, s.Sent = 18, []int{2}, 9
	})
	marked := someWorlds()["full of amounts, mark"]
	if len(marked.Chans[0].Way) != 8 {
		t.Fatal(marked)
	}
	wantRefused(t, "full with a mark", marked, snSend(0, 1))
}

func TestSendAtMostSoOften(t *testing.T) {
	s := plainNew(2, 20)
	s.Sent = 999
	wantDone(t, "the last one", s, snSend(0, 1), func(s *impl.Snap) {
		s.Amounts[0], s.Chans[0].Way, s.Sent = 19, []int{1}, 1000
	})
	s.Sent = 1000
	wantRefused(t, "one too many", s, snSend(0, 1))
	wantDone(t, "a mark is no amount", s, snBegin(1), func(s *impl.Snap) {
		s.Chans[1].Way = []int{0}
		s.Pictures[1] = impl.Picture{Taken: true, Amount: 20, In: []int{0, 0}, Closed: []bool{false, true}}
	})
}

func TestBegin(t *testing.T) {
	s := worldOf(3, 10, snSend(2, 3), snSend(3, 4))
	wantDone(t, "of three", s, snBegin(1), func(s *impl.Snap) {
		s.Chans[2].Way, s.Chans[3].Way = []int{3, 0}, []int{4, 0}
		s.Pictures[1] = impl.Picture{Taken: true, Amount: 3, In: []int{0, 0, 0}, Closed: []bool{false, true, false}}
	})
	wantDone(t, "where others have", midway(), snBegin(2), func(s *impl.Snap) {
		s.Chans[4].Way, s.Chans[5].Way = []int{2, 0}, []int{0}
		s.Pictures[2] = impl.Picture{Taken: true, Amount: 8, In: []int{0, 0, 0}, Closed: []bool{false, false, true}}
	})
	for _, k := range []int{0, 1} {
		wantRefused(t, "taken already", midway(), snBegin(k))
	}
	for _, k := range []int{-1, 3, 4, 5, 6} {
		wantRefused(t, "no such process", s, snBegin(k))
		wantRefused(t, "no such process", midway(), snBegin(k))
	}
	for k := range 4 {
		wantRefused(t, "ended", ended(), snBegin(k))
	}
}

func TestBeginWhereThereIsRoomForAllMarks(t *testing.T) {
	for full := range 6 {
		s := plainNew(3, 10)
		s.Chans[full].Way = slices.Repeat([]int{1}, 8)
		s.Total += 8
		for k := range 3 {
			if k == s.Chans[full].From {
				wantRefused(t, "no room for one mark", s, snBegin(k))
			} else if _, ok := wantStep(t, "room", s, snBegin(k)); !ok {
				t.Error(full, k)
			}
		}
		s.Chans[full].Way = s.Chans[full].Way[:7]
		s.Total--
		for k := range 3 {
			if _, ok := wantStep(t, "just room", s, snBegin(k)); !ok {
				t.Error(full, k)
			}
		}
	}
}

func TestTakeAnAmount(t *testing.T) {
	wantDone(t, "no picture", onWayOnly([]int{5, 7}, []int{3, 4, 1}, nil), snTake(0), func(s *impl.Snap) {
		s.Amounts[1], s.Chans[0].Way = 10, []int{4, 1}
	})
	wantDone(t, "all there is", onWayOnly([]int{0, 0}, nil, []int{1000}), snTake(1), func(s *impl.Snap) {
		s.Amounts[0], s.Chans[1].Way = 1000, nil
	})
	wantDone(t, "a picture, open", midway(), snTake(4), func(s *impl.Snap) {
		s.Amounts[0], s.Chans[4].Way, s.Pictures[0].In[2] = 11, nil, 2
	})
	wantDone(t, "a picture, Closed", midway(), snTake(0), func(s *impl.Snap) {
		s.Amounts[1], s.Chans[0].Way = 11, nil
	})
	more := changedWorld(func(s *impl.Snap) { s.Pictures[0].In[2] = 70 })
	wantDone(t, "it is added", more, snTake(4), func(s *impl.Snap) {
		s.Amounts[0], s.Chans[4].Way, s.Pictures[0].In[2] = 11, nil, 72
	})
	sender := worldOf(2, 5, snSend(1, 2), snSend(0, 1), snBegin(1))
	wantDone(t, "the sender has one, the taker none", sender, snTake(1), func(s *impl.Snap) {
		s.Amounts[0], s.Chans[1].Way = 6, []int{0}
	})
}

func TestTakeNothing(t *testing.T) {
	s := onWayOnly([]int{5, 7}, []int{3}, nil)
	for _, k := range []int{-1, 1, 2, 3} {
		wantRefused(t, "nothing there", s, snTake(k))
	}
	for k := -1; k <= 12; k++ {
		wantRefused(t, "ended", ended(), snTake(k))
		wantRefused(t, "new", plainNew(4, 250), snTake(k))
	}
}

func TestTakeWhatInHasRoomFor(t *testing.T) {
	for _, c := range []struct {
		in   int
		done bool
	}{{999997, true}, {999998, true}, {999999, false}, {1000000, false}} {
		s := changedWorld(func(s *impl.Snap) { s.Pictures[0].In[2] = c.in })
		got, ok := wantStep(t, "In", s, snTake(4))
		if ok != c.done || ok && got.Pictures[0].In[2] != c.in+2 {
			t.Error(c, got, ok)
		}
		if _, _, ok := impl.FinishSnap(s); ok != c.done {
			t.Error(c, "finish", ok)
		}
	}
	closed := changedWorld(func(s *impl.Snap) { s.Pictures[1].In[0] = 1000000 })
	wantDone(t, "nothing is added where it is Closed", closed, snTake(0), func(s *impl.Snap) {
		s.Amounts[1], s.Chans[0].Way = 11, nil
	})
}

func TestTakeAMark(t *testing.T) {
	wantDone(t, "not Taken", midway(), snTake(3), func(s *impl.Snap) {
		s.Chans[3].Way, s.Chans[4].Way, s.Chans[5].Way = nil, []int{2, 0}, []int{0}
		s.Pictures[2] = impl.Picture{Taken: true, Amount: 8, In: []int{0, 0, 0}, Closed: []bool{false, true, true}}
	})
	wantDone(t, "Taken", midway(), snTake(2), func(s *impl.Snap) {
		s.Chans[2].Way, s.Pictures[0].Closed[1] = nil, true
	})
	ahead := worldOf(2, 5, snBegin(0), snSend(0, 2), snSend(0, 3))
	wantDone(t, "ahead of amounts", ahead, snTake(0), func(s *impl.Snap) {
		s.Chans[0].Way, s.Chans[1].Way = []int{2, 3}, []int{0}
		s.Pictures[1] = impl.Picture{Taken: true, Amount: 5, In: []int{0, 0}, Closed: []bool{true, true}}
	})
	both := worldOf(2, 5, snBegin(0), snSend(1, 2), snBegin(1))
	wantDone(t, "both began", both, snTake(0), func(s *impl.Snap) {
		s.Chans[0].Way, s.Pictures[1].Closed[0] = nil, true
	})
}

func TestTakeAMarkWhereThereIsRoomForAllMarks(t *testing.T) {
	s := worldOf(3, 20, slices.Repeat([]impl.SnapStep{snSend(3, 1)}, 7)...)
	s = worldAfter(s, snBegin(0))
	if _, ok := wantStep(t, "just room", s, snTake(0)); !ok {
		t.Error("just room")
	}
	s = worldAfter(s, snSend(3, 1))
	wantRefused(t, "no room", s, snTake(0))
	if _, ok := wantStep(t, "room from another one", s, snTake(1)); !ok {
		t.Error("room from another one")
	}
	if _, ok := wantStep(t, "room again", worldAfter(s, snTake(3)), snTake(0)); !ok {
		t.Error("room again")
	}
	taken := worldOf(2, 20, slices.Repeat([]impl.SnapStep{snSend(0, 1)}, 7)...)
	taken = worldAfter(taken, snBegin(0), snBegin(1))
	wantDone(t, "Taken, no room is needed", taken, snTake(1), func(s *impl.Snap) {
		s.Chans[1].Way, s.Pictures[0].Closed[1] = nil, true
	})
}

func TestStepsThatAreNone(t *testing.T) {
	for why, s := range someWorlds() {
		for k := -1; k <= 12; k++ {
			for _, n := range []int{-1, 0, 1, 2} {
				for _, kind := range []int{-1, 0, 4, 5} {
					wantRefused(t, why+": no such kind", s, impl.SnapStep{Kind: kind, K: k, N: n})
				}
				if n != 0 {
					wantRefused(t, why+": taken with an N", s, impl.SnapStep{Kind: impl.SnTake, K: k, N: n})
					wantRefused(t, why+": begun with an N", s, impl.SnapStep{Kind: impl.SnBegin, K: k, N: n})
				}
			}
		}
	}
}

func TestPlaySnap(t *testing.T) {
	s, did, ok := impl.PlaySnap(2, 250, nil)
	if !ok || len(did) != 0 || !sameSnap(s, plainNew(2, 250)) {
		t.Error("no step", s, did, ok)
	}
	l := []impl.SnapStep{snTake(0), snSend(0, 4), snBegin(2), snSend(0, 7), snBegin(1), snBegin(1), snTake(0), snSend(1, 10), {}, snTake(0)}
	s, did, ok = impl.PlaySnap(2, 10, l)
	want := impl.Snap{
		Amounts:  []int{6, 4},
		Chans:    []impl.Chan{{From: 0, To: 1}, {From: 1, To: 0, Way: []int{0, 10}}},
		Pictures: []impl.Picture{{In: []int{0, 0}, Closed: []bool{false, false}}, {Taken: true, Amount: 10, In: []int{4, 0}, Closed: []bool{false, true}}},
		Sent:     2,
		Total:    20,
	}
	if !ok || !sameSnap(s, want) || !slices.Equal(did, []bool{false, true, false, false, true, false, true, true, false, false}) {
		t.Error(s, did, ok)
	}
}

func TestPlaySnapOfAtMostSoManySteps(t *testing.T) {
	round := []impl.SnapStep{snSend(0, 1), snTake(0), snTake(0), snSend(1, 1)}
	l := slices.Repeat(round, 21)
	for _, many := range []int{0, 1, 79, 80} {
		s, did, ok := impl.PlaySnap(2, 50, l[:many])
		if !ok || len(did) != many || !impl.GoodSnap(s) {
			t.Error(many, s, did, ok)
		}
		wantPlay(t, "steps", 2, 50, l[:many])
	}
	for _, l := range [][]impl.SnapStep{l[:81], make([]impl.SnapStep, 81)} {
		if s, did, ok := impl.PlaySnap(2, 50, l); ok || len(did) != 0 || !sameSnap(s, impl.Snap{}) {
			t.Error("one more", s, did, ok)
		}
	}
	s, did, ok := impl.PlaySnap(3, 5, make([]impl.SnapStep, 80))
	if !ok || !slices.Equal(did, make([]bool, 80)) || !sameSnap(s, plainNew(3, 5)) {
		t.Error("none is done", s, did, ok)
	}
	for _, c := range [][2]int{{1, 10}, {5, 10}, {2, -1}, {2, 251}, {0, 0}, {-1, 10}} {
		if s, did, ok := impl.PlaySnap(c[0], c[1], l[:4]); ok || len(did) != 0 || !sameSnap(s, impl.Snap{}) {
			t.Error(c, s, did, ok)
		}
	}
}

func TestOnWay(t *testing.T) {
	for why, want := range map[string]int{
		"new, of four":          0,
		"midway":                6,
		"ended":                 0,
		"begun":                 0,
		"both begun":            2,
		"all with one":          0,
		"all on the way":        1000,
		"both are full":         16,
		"full of amounts, mark": 7,
	} {
		if got, ok := impl.OnWay(someWorlds()[why]); got != want || !ok {
			t.Error(why, got, ok)
		}
	}
}

func TestPictureOf(t *testing.T) {
	if got, ok := impl.PictureOf(ended()); got != 400 || !ok {
		t.Error("ended", got, ok)
	}
	if got, ok := impl.PictureOf(worldOf(2, 0, snBegin(0), snTake(0), snTake(1))); got != 0 || !ok {
		t.Error("nothing", got, ok)
	}
	whole := worldOf(2, 10, snSend(1, 3), snBegin(0), snTake(1), snTake(0), snTake(1))
	if got, ok := impl.PictureOf(whole); got != 20 || !ok {
		t.Error("whole", got, ok)
	}
	if got, ok := impl.PictureOf(worldAfter(whole, snSend(0, 5), snSend(1, 1), snTake(1))); got != 20 || !ok {
		t.Error("all goes on", got, ok)
	}
	whole.Pictures[0].Amount, whole.Pictures[1].In[0] = 1000, 1000000
	if got, ok := impl.PictureOf(whole); got != 1001010 || !ok {
		t.Error("of no play", got, ok)
	}
	for why, s := range map[string]impl.Snap{
		"none is Taken":         plainNew(2, 10),
		"one is not Taken":      midway(),
		"one is open":           worldOf(2, 10, snBegin(0), snTake(0)),
		"all are open":          worldOf(2, 10, snBegin(0), snBegin(1)),
		"one channel of twelve": openAtTheEnd(),
	} {
		if got, ok := impl.PictureOf(s); got != 0 || ok || !impl.GoodSnap(s) {
			t.Error(why, got, ok)
		}
	}
}

// openAtTheEnd has a mark on its last channel, all else of its picture being there.
func openAtTheEnd() impl.Snap {
	s := worldOf(4, 10, snBegin(0), snBegin(1), snBegin(2), snBegin(3))
	for k := range 11 {
		s = worldAfter(s, snTake(k))
	}
	return s
}

func TestFinishSnap(t *testing.T) {
	full := slices.Repeat([]int{1}, 8)
	for _, c := range []struct {
		why  string
		s    impl.Snap
		many int
		ok   bool
	}{
		{"new, of two", plainNew(2, 10), 2, true},
		{"new, of three", plainNew(3, 10), 6, true},
		{"new, of four", plainNew(4, 0), 12, true},
		{"amounts, nothing Taken", onWayOnly([]int{5, 5}, []int{1, 2}, []int{3}), 5, true},
		{"one begun", worldOf(2, 10, snBegin(1)), 2, true},
		{"both begun", worldOf(2, 10, snBegin(1), snBegin(0)), 2, true},
		{"midway", midway(), 7, true},
		{"all is", ended(), 0, true},
		{"all is, amounts on the way", worldAfter(ended(), snSend(0, 1), snSend(0, 2), snSend(11, 3)), 3, true},
		{"one mark is left", openAtTheEnd(), 1, true},
		{"no room to begin", onWayOnly([]int{5, 5}, full, nil), 0, false},
		{"no room to answer", onWayOnly([]int{5, 5}, nil, full), 0, false},
		{"just room to begin", onWayOnly([]int{5, 5}, full[1:], nil), 9, true},
		{"just room to answer", onWayOnly([]int{5, 5}, nil, full[1:]), 9, true},
	} {
		got, many, ok := impl.FinishSnap(c.s)
		if many != c.many || ok != c.ok {
			t.Error(c.why, got, many, ok)
		}
		if !ok && !sameSnap(got, impl.Snap{}) {
			t.Error(c.why, got)
		}
		if _, whole := impl.PictureOf(got); whole != c.ok {
			t.Error(c.why, "the picture", whole)
		}
		wantSnap(t, c.why, c.s)
	}
}

// The process 0 begins, and channels are taken by their order: so its mark is
// answered ahead of what is on the last channel.
func TestHowSnapsAreFinished(t *testing.T) {
	got, many, ok := impl.FinishSnap(onWayOnly([]int{5, 7}, []int{1}, []int{2, 3}))
	want := impl.Snap{
		Amounts:  []int{10, 8},
		Chans:    []impl.Chan{{From: 0, To: 1}, {From: 1, To: 0}},
		Pictures: []impl.Picture{{Taken: true, Amount: 5, In: []int{0, 5}, Closed: []bool{true, true}}, {Taken: true, Amount: 8, In: []int{0, 0}, Closed: []bool{true, true}}},
		Total:    18,
	}
	if !ok || many != 5 || !sameSnap(got, want) {
		t.Error(got, many, ok)
	}
	got, many, ok = impl.FinishSnap(worldOf(2, 10, snBegin(1), snSend(0, 4)))
	if !ok || many != 3 || got.Pictures[0].Amount != 6 || got.Pictures[1].Amount != 10 || got.Pictures[1].In[0] != 4 {
		t.Error("another one began", got, many, ok)
	}
}

// wantTotal asks that a step, done or not, leaves all there is.
func wantTotal(t *testing.T, s impl.Snap, total int) {
	t.Helper()
	way, ok := impl.OnWay(s)
	if !ok || added(s.Amounts)+way != total || s.Total != total {
		t.Error("not all there is", s, total)
	}
}

// wantPicture asks for the promise in a world that a play made: where the picture
// is whole it has just what there is, and it is so once all is taken, if there is
// room for that.
func wantPicture(t *testing.T, s impl.Snap, total int) bool {
	t.Helper()
	if got, ok := impl.PictureOf(s); ok && got != total {
		t.Error("not just what there is", s, got)
	}
	end, _, ok := impl.FinishSnap(s)
	if !ok {
		return false
	}
	if got, whole := impl.PictureOf(end); !whole || got != total {
		t.Error("not just what there is in the end", s, got, whole)
	}
	wantTotal(t, end, total)
	return true
}

// fewSteps are the steps of a small world, as far as one can tell them apart.
func fewSteps(s impl.Snap) []impl.SnapStep {
	var l []impl.SnapStep
	for k, c := range s.Chans {
		l = append(l, snTake(k))
		for n := 1; n <= s.Amounts[c.From]; n++ {
			l = append(l, snSend(k, n))
		}
	}
	for k := range s.Amounts {
		l = append(l, snBegin(k))
	}
	return l
}

// All worlds that few steps of few processes lead to.
func TestAllFewSteps(t *testing.T) {
	for _, c := range []struct{ procs, amount, most int }{{2, 0, 8}, {2, 1, 11}, {2, 2, 8}, {3, 1, 5}, {4, 1, 4}} {
		first, ok := impl.NewSnap(c.procs, c.amount)
		if !ok {
			t.Fatal(c)
		}
		seen := map[string]bool{}
		now := []impl.Snap{first}
		for range c.most {
			var next []impl.Snap
			for _, s := range now {
				wantSnap(t, "few", s)
				wantTotal(t, s, c.procs*c.amount)
				wantPicture(t, s, c.procs*c.amount)
				for _, x := range fewSteps(s) {
					got, ok := wantStep(t, "few", s, x)
					if key := fmt.Sprint(got); ok && !seen[key] {
						seen[key] = true
						next = append(next, got)
					}
				}
			}
			now = next
		}
	}
}

// sending is one amount on its way: between whom, at which step it was sent, and
// at which one it came.
type sending struct{ from, to, amount, sent, came int }

// watched is a play that was looked at from outside: all that was sent, and at
// which step each picture was taken.
type watched struct {
	world    impl.Snap
	sendings []sending
	pictures []int
}

const notYet = 1 << 30

func watch(t *testing.T, procs, amount int, l []impl.SnapStep) watched {
	t.Helper()
	s, ok := impl.NewSnap(procs, amount)
	if !ok {
		t.Fatal(procs, amount)
	}
	w := watched{pictures: slices.Repeat([]int{notYet}, procs)}
	for at, x := range l {
		next, ok := impl.StepSnap(s, x)
		if !ok {
			continue
		}
		wantTotal(t, next, procs*amount)
		if x.Kind != impl.SnBegin {
			c := s.Chans[x.K]
			if x.Kind == impl.SnSend {
				w.sendings = append(w.sendings, sending{from: c.From, to: c.To, amount: x.N, sent: at, came: notYet})
			} else if c.Way[0] != 0 {
				w.comes(c.From, c.To, at)
			}
		}
		for p := range procs {
			if next.Pictures[p].Taken && w.pictures[p] == notYet {
				w.pictures[p] = at
			}
		}
		s = next
	}
	w.world = s
	return w
}

// comes is told of the eldest one that is still on the way.
func (w *watched) comes(from, to, at int) {
	for i, x := range w.sendings {
		if x.from == from && x.to == to && x.came == notYet {
			w.sendings[i].came = at
			return
		}
	}
}

// wantCut asks that the picture is that of the cut which the pictures' steps make:
// what each one had then, what was sent ahead of the sender's picture and came
// behind the taker's, and nothing that was sent behind the one and came ahead of
// the other.
func (w watched) wantCut(t *testing.T, amount int) {
	t.Helper()
	procs := len(w.pictures)
	amounts := slices.Repeat([]int{amount}, procs)
	in := make([][]int, procs)
	for p := range in {
		in[p] = make([]int, procs)
	}
	for _, x := range w.sendings {
		sentAhead, cameAhead := x.sent < w.pictures[x.from], x.came < w.pictures[x.to]
		if sentAhead {
			amounts[x.from] -= x.amount
		}
		if cameAhead {
			amounts[x.to] += x.amount
		}
		if sentAhead && !cameAhead {
			in[x.to][x.from] += x.amount
		}
		if cameAhead && !sentAhead {
			t.Error("one came ahead of its sending", x, w)
		}
	}
	for p, x := range w.world.Pictures {
		if x.Amount != amounts[p] || !slices.Equal(x.In, in[p]) {
			t.Error("not the picture of the cut", p, x, amounts, in)
		}
	}
}

// ending are steps that take all that is on the way, in any order.
func ending(s impl.Snap) []impl.SnapStep {
	var l []impl.SnapStep
	for range 3 * 8 {
		for k := range s.Chans {
			l = append(l, snTake(len(s.Chans)-1-k))
		}
	}
	return l
}

func TestThePictureIsThatOfACut(t *testing.T) {
	r := newRandom()
	cuts := 0
	for i := range 900 {
		procs := 2 + i%3
		amount := r.IntN(60)
		l := randomSteps(r, procs, 80)
		if i%4 > 0 {
			l = append(l, ending(plainNew(procs, 0))...)
		}
		w := watch(t, procs, amount, l)
		wantPicture(t, w.world, procs*amount)
		if got, ok := impl.PictureOf(w.world); ok {
			cuts++
			w.wantCut(t, amount)
			if got != procs*amount {
				t.Error("not just what there is", w, got)
			}
		}
	}
	if cuts < 300 {
		t.Error("too few were whole", cuts)
	}
}

func TestPlaysHaveJustWhatThereIs(t *testing.T) {
	r := newRandom()
	finished := 0
	for i := range 600 {
		procs, amount := 2+i%3, r.IntN(251)
		l := randomSteps(r, procs, r.IntN(81))
		wantPlay(t, "random", procs, amount, l)
		s, _, ok := impl.PlaySnap(procs, amount, l)
		if !ok {
			t.Fatal(procs, amount, l)
		}
		wantTotal(t, s, procs*amount)
		wantSnap(t, "random", s)
		if wantPicture(t, s, procs*amount) {
			finished++
		}
	}
	if finished < 300 {
		t.Error("too few were finished", finished)
	}
}

func TestRandomWorldsAndSteps(t *testing.T) {
	r := newRandom()
	for range 150 {
		wantSteps(t, "random", randomWorld(r))
	}
}

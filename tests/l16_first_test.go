package tests

import (
	"slices"
	"testing"

	"loop.example/g00361/impl"
)

// Promise 16: in a window that PlayWindow made the first texts are there, each once and in
// their order, over what loses and repeats; FinishWindow brings all.

// wantFirstTexts asks that the batches of the producer are the first texts, each once and
// in its order, with all that are Told and none that was not sent, and that all come by
// FinishWindow.
func wantFirstTexts(t *testing.T, w impl.Window) {
	t.Helper()
	if !impl.GoodWindow(w) {
		t.Error("not good", w)
	}
	own := batchesOf(w.Part.Log, 7)
	for k, b := range own {
		if k >= w.Sent || b.Seq != k || b.Epoch != 0 || !slices.Equal(b.Records, w.Texts[k:k+1]) {
			t.Error("another text is stored", k, b, w)
			return
		}
	}
	if l, ok := impl.StoredIn(w); !ok || !slices.Equal(l, w.Texts[:len(own)]) {
		t.Error("not the first texts", l, ok, w)
	}
	missing := 0
	for k, told := range w.Told {
		if told && k >= len(own) {
			t.Error("Told, and not stored", k, w)
		}
		if !told {
			missing++
		}
	}
	all, many, ok := impl.FinishWindow(w)
	if !ok || many != missing || !slices.Equal(all.Texts, w.Texts) || !slices.Equal(plainTextsIn(all.Part), w.Texts) {
		t.Error("not all are brought", w, all, many, ok)
	}
	if slices.Contains(all.Told, false) || all.Sent != len(w.Texts) || len(all.Way)+len(all.Back) != 0 {
		t.Error("not all are Told, or something is on a way", w, all)
	}
	if !sameLog(all.Part.Log[:len(w.Part.Log)], w.Part.Log) || len(all.Part.Log) != len(w.Part.Log)+len(w.Texts)-len(own) {
		t.Error("more comes than what is missing", w, all)
	}
}

// wantNothingLost asks of a step that was done that what is Told, sent and stored stays,
// and that it changes no more than a step of its kind does.
func wantNothingLost(t *testing.T, before, after impl.Window, x impl.WinStep) {
	t.Helper()
	if !slices.Equal(before.Texts, after.Texts) || len(after.Told) != len(before.Told) {
		t.Error("another window", before, x, after)
		return
	}
	newlyTold := 0
	for k, told := range before.Told {
		if told && !after.Told[k] {
			t.Error("Told no more", k, before, x, after)
		}
		if !told && after.Told[k] {
			newlyTold++
		}
	}
	newlySent, many := after.Sent-before.Sent, len(before.Part.Log)
	newlyStored := len(after.Part.Log) - many
	if newlyStored < 0 || !sameLog(after.Part.Log[:many], before.Part.Log) {
		t.Error("what was stored is another thing", before, x, after)
		return
	}
	ways := []int{len(after.Way) - len(before.Way), len(after.Back) - len(before.Back)}
	replies := 1
	if len(before.Back) == 20 {
		replies = 0
	}
	wanted := [][]int{nil, {1, 0}, {1, 0}, {-1, replies}, {-1, 0}, {1, 0}, {0, -1}, {0, -1}}[x.Kind]
	if !slices.Equal(ways, wanted) {
		t.Error("more or less is on the ways", before, x, after)
	}
	if newlySent < 0 || newlySent > 1 || (newlySent == 1) != (x.Kind == impl.WiSend) ||
		newlyTold > 1 || newlyTold == 1 && x.Kind != impl.WiAnswer ||
		newlyStored > 1 || newlyStored == 1 && x.Kind != impl.WiTake {
		t.Error("sent, Told or stored by another step", before, x, after)
	}
}

// windowKey is another one for each window of the same texts that a play made.
func windowKey(w impl.Window) string {
	key := []byte{byte(w.Sent), byte(len(w.Part.Log)), byte(len(w.Way))}
	for _, told := range w.Told {
		bit := byte(0)
		if told {
			bit = 1
		}
		key = append(key, bit)
	}
	for _, k := range w.Way {
		key = append(key, byte(k))
	}
	for _, r := range w.Back {
		key = append(key, byte(r.Seq), byte(r.Code))
	}
	return string(key)
}

type windowLimits struct {
	texts, way, back, windows int
}

// fewWindowSteps are the steps that lead on within such limits.
func fewWindowSteps(w impl.Window, few windowLimits) []impl.WinStep {
	var l []impl.WinStep
	if len(w.Way) < few.way {
		l = append(l, wiSend())
		for k := range w.Sent {
			l = append(l, wiAgain(k))
		}
	}
	for k := range w.Way {
		l = append(l, wiLose(k))
		if len(w.Way) < few.way {
			l = append(l, wiTwice(k))
		}
		if len(w.Back) < few.back {
			l = append(l, wiTake(k))
		}
	}
	for k := range w.Back {
		l = append(l, wiAnswer(k), wiDrop(k))
	}
	return l
}

// All windows that few texts come to, with few on the ways.
func TestAllFewWindows(t *testing.T) {
	for _, few := range []windowLimits{{1, 3, 3, 60}, {2, 3, 2, 300}, {2, 2, 3, 300}, {3, 2, 2, 500}, {6, 1, 1, 300}, {7, 1, 1, 500}} {
		first, _ := impl.NewWindow(texts(few.texts, 2))
		seen := map[string]bool{windowKey(first): true}
		all := []impl.Window{first}
		done := 0
		for at := 0; at < len(all) && !t.Failed(); at++ {
			w := all[at]
			wantFirstTexts(t, w)
			if !slices.Contains(w.Told, false) {
				done++
			}
			for _, x := range fewWindowSteps(w, few) {
				got, ok := wantWindowStep(t, "few", w, x)
				if !ok {
					continue
				}
				wantNothingLost(t, w, got, x)
				if key := windowKey(got); !seen[key] {
					seen[key] = true
					all = append(all, got)
				}
			}
		}
		if done == 0 || len(all) < few.windows {
			t.Error("too few come to be", few, done, len(all))
		}
	}
}

func TestPlaysStoreTheFirstTexts(t *testing.T) {
	r := newRandom()
	stored, told, whole := 0, 0, 0
	for range 1500 {
		texts := randomTexts(r, 0)
		l := randomWindowSteps(r, texts, r.IntN(81))
		wantWindowPlay(t, "random", texts, l)
		w, _, ok := impl.PlayWindow(texts, l)
		if !ok {
			t.Fatal(texts, l)
		}
		wantWindow(t, "random", w)
		wantFirstTexts(t, w)
		half, _, _ := impl.PlayWindow(texts, l[:len(l)/2])
		for k, is := range half.Told {
			if is && !w.Told[k] {
				t.Error("Told no more", k, texts, l)
			}
		}
		some := len(batchesOf(w.Part.Log, 7))
		if some < len(batchesOf(half.Part.Log, 7)) {
			t.Error("fewer are stored", texts, l)
		}
		stored += some
		told += w.Sent - len(plainNotTold(w))
		if !slices.Contains(w.Told, false) {
			whole++
		}
	}
	if stored < 3000 || told < 2000 || whole < 50 {
		t.Error("too little is stored or Told", stored, told, whole)
	}
}

// Step by step, so that all texts come to be Told, whatever is lost and repeated, and
// replies of each code that can come are there.
func TestLongRunsStoreTheFirstTexts(t *testing.T) {
	r := newRandom()
	whole := 0
	codes := make([]int, 6)
	for range 60 {
		now, _ := impl.NewWindow(randomTexts(r, 6))
		for range 300 {
			x := randomWindowStep(r, now)
			next, ok := impl.StepWindow(now, x)
			if !ok {
				continue
			}
			wantNothingLost(t, now, next, x)
			if x.Kind == impl.WiTake && len(next.Back) > len(now.Back) {
				codes[next.Back[len(next.Back)-1].Code]++
			}
			now = next
		}
		wantFirstTexts(t, now)
		if !slices.Contains(now.Told, false) {
			whole++
		}
	}
	if whole < 10 || slices.Contains(codes[:4], 0) || codes[4]+codes[5] > 0 {
		t.Error("not all came to be", whole, codes)
	}
}

// A window that no play made loses nothing, either.
func TestAnyGoodWindowsLoseNothing(t *testing.T) {
	r := newRandom()
	for range 300 {
		w := anyWindow(r)
		for _, x := range windowStepsOn(w) {
			if got, ok := impl.StepWindow(w, x); ok {
				wantNothingLost(t, w, got, x)
			}
		}
	}
}

func wantPlayedTo(t *testing.T, why string, many int, told []bool, stored int, l ...impl.WinStep) impl.Window {
	t.Helper()
	w, did, ok := impl.PlayWindow(texts(many, 1), l)
	if !ok || slices.Contains(did, false) || !slices.Equal(w.Told, told) || len(plainTextsIn(w.Part)) != stored {
		t.Error(why, w, did, ok)
	}
	wantFirstTexts(t, w)
	return w
}

func TestWhatIsRepeatedIsStoredOnce(t *testing.T) {
	wantPlayedTo(t, "on the Way", 2, []bool{true, false}, 1,
		wiSend(), wiTwice(0), wiTwice(1), wiTake(0), wiTake(0), wiTake(0), wiAnswer(2), wiAnswer(1), wiAnswer(0))
	wantPlayedTo(t, "asked for again", 2, []bool{false, false}, 1,
		wiSend(), wiTake(0), wiDrop(0), wiAgain(0), wiTake(0), wiDrop(0), wiAgain(0), wiTake(0), wiDrop(0))
	w := wantPlayedTo(t, "when it is Told already", 1, []bool{true}, 1, wiSend(), wiTwice(0), wiTake(0), wiAnswer(0), wiTake(0))
	if !slices.Equal(w.Back, []impl.Reply{{Seq: 0, Code: impl.AskAgain}}) {
		t.Error(w)
	}
}

func TestWhatIsLostIsSentAgain(t *testing.T) {
	wantPlayedTo(t, "on the Way", 1, []bool{false}, 0, wiSend(), wiLose(0))
	wantPlayedTo(t, "and again", 1, []bool{true}, 1, wiSend(), wiLose(0), wiAgain(0), wiTake(0), wiAnswer(0))
	wantPlayedTo(t, "on the way Back", 1, []bool{false}, 1, wiSend(), wiTake(0), wiDrop(0))
	wantPlayedTo(t, "and again", 1, []bool{true}, 1, wiSend(), wiTake(0), wiDrop(0), wiAgain(0), wiTake(0), wiAnswer(0))
}

// What is taken while the way Back is full is stored once all the same, and is told when
// it is asked for again.
func TestWhatHasNoReplyIsStoredOnce(t *testing.T) {
	l := []impl.WinStep{wiSend()}
	for range 20 {
		l = append(l, wiTwice(0), wiTake(0))
	}
	l = append(l, wiSend(), wiTwice(1), wiTake(1))
	w := wantPlayedTo(t, "no reply", 2, []bool{false, false}, 2, l...)
	if !slices.Equal(w.Way, []int{0, 1}) || len(w.Back) != 20 || slices.Contains(w.Back, impl.Reply{Seq: 1}) {
		t.Error(w)
	}
	l = append(l, wiAnswer(0), wiTake(1))
	w = wantPlayedTo(t, "once more, with room", 2, []bool{true, false}, 2, l...)
	if w.Back[19] != (impl.Reply{Seq: 1, Code: impl.AskAgain}) {
		t.Error(w)
	}
	wantPlayedTo(t, "it is told", 2, []bool{true, true}, 2, append(l, wiAnswer(19))...)
}

// What comes ahead of its turn is not stored, and its reply tells that nothing is.
func TestWhatComesAheadOfItsTurnWaits(t *testing.T) {
	ahead := []impl.WinStep{wiSend(), wiSend(), wiTake(1)}
	w := wantPlayedTo(t, "ahead", 2, []bool{false, false}, 0, ahead...)
	if !slices.Equal(w.Back, []impl.Reply{{Seq: 1, Code: impl.AskGap}}) {
		t.Error(w)
	}
	wantPlayedTo(t, "its reply comes", 2, []bool{false, false}, 0, append(ahead, wiAnswer(0))...)
	wantPlayedTo(t, "in its turn", 2, []bool{true, true}, 2, append(ahead, wiTake(0), wiAgain(1), wiTake(0), wiAnswer(1), wiAnswer(1), wiAnswer(0))...)
}

// A repeated text that comes when five others were stored behind it is old, and is not
// stored once more.
func TestWhatComesLateIsOld(t *testing.T) {
	l := []impl.WinStep{wiSend(), wiTwice(0), wiTake(0), wiDrop(0)}
	told := []bool{false}
	for range 4 {
		l = append(l, wiSend(), wiTake(1), wiAnswer(0))
		told = append(told, true)
	}
	w := wantPlayedTo(t, "four behind it", 6, append(told, false), 5, append(l, wiTake(0))...)
	if !slices.Equal(w.Back, []impl.Reply{{Seq: 0, Code: impl.AskAgain}}) {
		t.Error(w)
	}
	l = append(l, wiSend(), wiTake(1), wiAnswer(0), wiTake(0))
	w = wantPlayedTo(t, "five behind it", 6, append(told, true), 6, l...)
	if !slices.Equal(w.Back, []impl.Reply{{Seq: 0, Code: impl.AskOld}}) {
		t.Error(w)
	}
	wantPlayedTo(t, "it is there", 6, slices.Repeat([]bool{true}, 6), 6, append(l, wiAnswer(0))...)
}

package tests

import (
	"math/rand/v2"
	"slices"
	"strings"
	"testing"

	"loop.example/g00361/impl"
)

// Promise 19 for chapter 16: answers at any arguments, nothing written into an
// argument, no memory shared.

// numbersOfWindow are the places of all numbers of a window.
func numbersOfWindow(w *impl.Window) []*int {
	l := []*int{&w.Sent, &w.Part.End}
	for i := range w.Way {
		l = append(l, &w.Way[i])
	}
	for i := range w.Back {
		l = append(l, &w.Back[i].Seq, &w.Back[i].Code)
	}
	for i := range w.Part.Log {
		b := &w.Part.Log[i]
		l = append(l, &b.Offset, &b.Epoch, &b.Producer, &b.Seq)
	}
	for i := range w.Part.Producers {
		x := &w.Part.Producers[i]
		l = append(l, &x.Id, &x.Epoch, &x.Next, &x.Window[0].Seq, &x.Window[0].Many, &x.Window[0].Offset)
	}
	return l
}

func oddWindows() []impl.Window {
	l := []impl.Window{
		{},
		{Texts: []string{}, Told: []bool{}, Way: []int{}, Back: []impl.Reply{}},
		changedWindow(func(w *impl.Window) { w.Texts = texts(1<<16, 1) }),
		changedWindow(func(w *impl.Window) { w.Texts, w.Told = make([]string, 1<<16), make([]bool, 1<<16) }),
		changedWindow(func(w *impl.Window) { w.Texts[0] = strings.Repeat("x", 1<<20) }),
		changedWindow(func(w *impl.Window) { w.Told = make([]bool, 1<<16) }),
		changedWindow(func(w *impl.Window) { w.Told = slices.Repeat([]bool{true}, 1<<16) }),
		changedWindow(func(w *impl.Window) { w.Told = slices.Repeat([]bool{true}, 8) }),
		changedWindow(func(w *impl.Window) { w.Way = make([]int, 1<<16) }),
		changedWindow(func(w *impl.Window) { w.Back = make([]impl.Reply, 1<<16) }),
	}
	for _, p := range oddParts() {
		l = append(l, changedWindow(func(w *impl.Window) { w.Part = p }), impl.Window{Part: p})
	}
	first := underWay()
	for _, n := range append(oddNumbers(), -2, 2, 3, 4, 5, 6, 7, 8, 9, 20, 21, 63, 64) {
		for i := range numbersOfWindow(&first) {
			w := underWay()
			*numbersOfWindow(&w)[i] = n
			l = append(l, w)
		}
		all := underWay()
		for _, p := range numbersOfWindow(&all) {
			*p = n
		}
		ways := underWay()
		ways.Sent, ways.Way, ways.Back = n, slices.Repeat([]int{n}, 3), slices.Repeat([]impl.Reply{{Seq: n, Code: n}}, 3)
		l = append(l, all, ways, impl.Window{Sent: n}, impl.Window{Sent: n, Told: make([]bool, 3)}, impl.Window{Sent: n, Texts: make([]string, 3), Told: make([]bool, 3)})
	}
	return l
}

func TestAnyWindowIsAnswered(t *testing.T) {
	for _, w := range oddWindows() {
		wantWindow(t, "odd", w)
		for _, x := range []impl.WinStep{wiSend(), wiAgain(1), wiTake(0), wiLose(4), wiTwice(2), wiAnswer(1), wiDrop(3), {}, {Kind: 8}} {
			wantWindowStep(t, "odd", w, x)
		}
	}
}

func TestAnyWindowStepIsAnswered(t *testing.T) {
	numbers := append(oddNumbers(), -2, 2, 3, 4, 5, 6, 7, 8, 9, 20, 63, 64)
	var all []impl.WinStep
	for _, kind := range numbers {
		for _, k := range numbers {
			all = append(all, impl.WinStep{Kind: kind, K: k})
		}
	}
	for _, w := range []impl.Window{{}, underWay(), plainWindow("a"), someWindows()["twenty on both"], someWindows()["all Told"], badWindows()["Sent of -1"]} {
		for _, x := range all {
			wantWindowStep(t, "odd", w, x)
		}
	}
	for i, x := range all {
		wantWindowPlay(t, "odd", []string{"a", "b"}, []impl.WinStep{x, wiSend(), x, wiTake(0), x, wiAnswer(0), all[len(all)-1-i], wiSend(), x})
	}
	wantWindowPlay(t, "many", []string{"a"}, make([]impl.WinStep, 1<<16))
	wantWindowPlay(t, "many good ones", []string{"a"}, slices.Repeat([]impl.WinStep{wiSend()}, 1<<16))
}

func TestAnyTextsOfWindowsAreAnswered(t *testing.T) {
	for _, l := range [][]string{nil, {}, {""}, make([]string, 12), make([]string, 13), make([]string, 1<<16), texts(12, 20), texts(12, 21), texts(1<<12, 20),
		{strings.Repeat("x", 1<<20)}, {"a", strings.Repeat("x", 21)}, {"\x00\xff\n", "\xc3"}} {
		want, wanted := plainNewWindow(l)
		if w, ok := impl.NewWindow(l); ok != wanted || !sameWindow(w, want) {
			t.Error(len(l), w, ok)
		}
		wantWindowPlay(t, "odd", l, []impl.WinStep{wiSend(), wiSend(), wiTwice(1), wiTake(1), wiTake(0), wiTake(0), wiAnswer(1), wiAnswer(1)})
	}
}

// shiftedWindow changes one number, bit, text or list of a window a little.
func shiftedWindow(r *rand.Rand, first impl.Window) impl.Window {
	w := copyOfWindow(first)
	some := max(1, w.Sent)
	switch r.IntN(13) {
	case 0:
		w.Way = append(w.Way, r.IntN(some+1))
	case 1:
		w.Back = append(w.Back, impl.Reply{Seq: r.IntN(some), Code: r.IntN(7)})
	case 2:
		w.Part = moved(r, w.Part)
	case 3:
		w.Part.Log = w.Part.Log[:max(0, len(w.Part.Log)-1)]
	case 4:
		next, _, _, _ := plainAsked(w.Part, impl.Ask{Id: 7, Seq: len(plainTextsIn(w.Part)), Records: []string{"one more"}})
		w.Part = next
	case 5:
		w.Sent += 1 - 2*r.IntN(2)
	case 6:
		w.Texts = append(w.Texts, "one more")
	case 7:
		w.Texts, w.Told = append(w.Texts, "one more"), append(w.Told, false)
	case 8:
		stored := len(plainTextsIn(w.Part))
		many := r.IntN(w.Sent-stored+1) + 1
		if stored+many <= len(w.Texts) {
			w.Part, _, _, _ = plainAsked(w.Part, impl.Ask{Id: 7, Seq: stored, Records: w.Texts[stored : stored+many]})
		}
	default:
		if len(w.Texts) == 0 {
			return w
		}
		k := r.IntN(len(w.Texts))
		if r.IntN(4) == 0 {
			w.Texts[k] += "x"
		} else {
			w.Told[k] = !w.Told[k]
		}
	}
	return w
}

func TestWindowsNearToGoodOnesAreAnswered(t *testing.T) {
	r := newRandom()
	good := 0
	for i := range 600 {
		first := randomWindow(r)
		if i%6 == 0 {
			first = anyWindow(r)
		}
		near := shiftedWindow(r, first)
		if plainWindowGood(near) {
			good++
		}
		wantWindowSteps(t, "near", near)
	}
	if good < 100 || good > 500 {
		t.Error("one kind of windows alone", good)
	}
}

// roomyWindow is the same window, all its lists with room behind their length, in which
// stands what would be taken for more of them. What is told beside it are all of these
// lists up to the end of their memory.
func roomyWindow(first impl.Window) (impl.Window, impl.Window) {
	w, memory := first, first
	w.Texts, memory.Texts = roomyList(first.Texts, "behind", strings.Repeat("b", 21))
	w.Told, memory.Told = roomyList(first.Told, false, true)
	w.Way, memory.Way = roomyList(first.Way, 0, -7)
	w.Back, memory.Back = roomyList(first.Back, impl.Reply{}, impl.Reply{Seq: -7})
	w.Part, memory.Part = roomyPart(first.Part)
	return w, memory
}

// seenInWindow is what stands now in the memory of a window made by roomyWindow.
func seenInWindow(w impl.Window, memory impl.Window) impl.Window {
	return impl.Window{
		Texts: w.Texts[:len(memory.Texts)],
		Sent:  w.Sent,
		Told:  w.Told[:len(memory.Told)],
		Way:   w.Way[:len(memory.Way)],
		Back:  w.Back[:len(memory.Back)],
		Part:  seenAgain(w.Part, memory.Part),
	}
}

func TestWindowsStayAsTheyAre(t *testing.T) {
	all := badWindows()
	for why, w := range tightWindows() {
		all[why] = w
	}
	for why, first := range all {
		w, memory := roomyWindow(first)
		before := copyOfWindow(memory)
		if !sameWindow(w, first) || !sameWindow(seenInWindow(w, memory), before) {
			t.Fatal("the window with room is not the same", why)
		}
		wantWindowSteps(t, why, w)
		if !sameWindow(w, first) || !sameWindow(seenInWindow(w, memory), before) {
			t.Error("written into the window:", why)
		}
	}
}

// tightWindows are good ones, some of them with lists that are pieces of one memory.
func tightWindows() map[string]impl.Window {
	all := someWindows()
	own := underWay()
	for i, b := range own.Part.Log {
		if b.Producer == 7 {
			own.Part.Log[i].Records = own.Texts[b.Seq : b.Seq+1]
		}
	}
	all["the part's records are the texts"] = own
	same := slices.Repeat([]string{strings.Repeat("s", 20)}, 12)
	alike := impl.Window{Texts: same, Sent: 9, Told: append(slices.Repeat([]bool{true}, 4), make([]bool, 8)...), Way: make([]int, 20), Part: storedAlone(same, 6)}
	for i := range alike.Part.Log[1:] {
		alike.Part.Log[1+i].Records = same[:1]
	}
	all["one text for all"] = alike
	empty := underWay()
	empty.Way, empty.Back = empty.Way[:0], empty.Back[:0]
	all["empty lists with memory behind them"] = empty
	return all
}

func TestWindowsThatShareTheirMemoryStayAsTheyAre(t *testing.T) {
	for why, w := range tightWindows() {
		before := copyOfWindow(w)
		way, back := slices.Clone(w.Way[:cap(w.Way)]), slices.Clone(w.Back[:cap(w.Back)])
		wantWindowSteps(t, why, w)
		if !sameWindow(w, before) || !slices.Equal(w.Way[:cap(w.Way)], way) || !slices.Equal(w.Back[:cap(w.Back)], back) {
			t.Error("written into the window:", why)
		}
	}
}

func TestTextsAndWindowStepsStayAsTheyAre(t *testing.T) {
	r := newRandom()
	for many := range 83 {
		given, textsMemory := roomyList(randomTexts(r, 0), "behind", strings.Repeat("b", 21))
		l, memory := roomyList(randomWindowSteps(r, given, many), wiSend(), impl.WinStep{Kind: -7})
		before, textsBefore := slices.Clone(memory), slices.Clone(textsMemory)
		wantWindowPlay(t, "room", given, l)
		if w, ok := impl.NewWindow(given); !ok || !sameWindow(w, plainWindow(given...)) {
			t.Error("room", given, w, ok)
		}
		if !slices.Equal(memory, before) || !slices.Equal(textsMemory, textsBefore) {
			t.Error("written into the steps or the texts", many)
		}
	}
}

// wantOwnTexts asks that neither the list nor a text of it is of such memory.
func wantOwnTexts(t *testing.T, why string, given []string, got []string) {
	t.Helper()
	if batchesShare(impl.Batch{Records: given}, impl.Batch{Records: got}) {
		t.Error(why, "texts are shared")
	}
}

// wantOwnWindow asks that nothing of the answer is of the argument's memory, nor two of
// its lists of one.
func wantOwnWindow(t *testing.T, why string, w impl.Window, got impl.Window) {
	t.Helper()
	if listsShare(w.Told, got.Told) || listsShare(w.Way, got.Way) || listsShare(w.Back, got.Back) {
		t.Error(why, "a list is shared")
	}
	wantOwnTexts(t, why, w.Texts, got.Texts)
	wantOwnPart(t, why, w.Part, got.Part)
	for _, b := range w.Part.Log {
		wantOwnTexts(t, why, b.Records, got.Texts)
	}
	for _, b := range got.Part.Log {
		wantOwnTexts(t, why, w.Texts, b.Records)
		wantOwnTexts(t, why+": two of the answer", got.Texts, b.Records)
	}
}

func TestWindowsShareNoMemory(t *testing.T) {
	for why, first := range tightWindows() {
		if !impl.GoodWindow(first) {
			t.Fatal(why)
		}
		roomy, _ := roomyWindow(first)
		for _, w := range []impl.Window{first, roomy} {
			for _, x := range windowStepsOn(w) {
				if got, ok := impl.StepWindow(w, x); ok {
					wantOwnWindow(t, why, w, got)
				}
			}
			all, _, _ := impl.FinishWindow(w)
			wantOwnWindow(t, why, w, all)
			flight, _ := impl.InFlight(w)
			other, _ := impl.InFlight(w)
			wantOwnLists(t, why, [][]int{w.Way}, [][]int{flight, other})
			stored, _ := impl.StoredIn(w)
			wantOwnTexts(t, why, w.Texts, stored)
			for _, b := range w.Part.Log {
				wantOwnTexts(t, why, b.Records, stored)
			}
		}
	}
	r := newRandom()
	for range 100 {
		given := randomTexts(r, 0)
		got, _, _ := impl.PlayWindow(given, randomWindowSteps(r, given, r.IntN(81)))
		wantOwnWindow(t, "played", impl.Window{Texts: given}, got)
		bare, _, _ := impl.PlayWindow(given, nil)
		wantOwnWindow(t, "played by no step", impl.Window{Texts: given}, bare)
		fresh, _ := impl.NewWindow(given)
		wantOwnWindow(t, "new", impl.Window{Texts: given}, fresh)
	}
}

// spoilList writes into all of a list's memory.
func spoilList[A any](l []A, spoilt A) {
	l = l[:cap(l)]
	for i := range l {
		l[i] = spoilt
	}
}

func spoilWindow(w impl.Window) {
	spoilList(w.Texts, "spoilt")
	spoilList(w.Told, true)
	spoilList(w.Way, -9)
	spoilList(w.Back, impl.Reply{Seq: -9})
	spoilPart(w.Part)
}

// What is done to an answer, up to the end of its memory, is not seen in an argument, nor
// in what is answered next.
func TestAnsweredWindowsMayBeWrittenInto(t *testing.T) {
	for why, first := range tightWindows() {
		w, memory := roomyWindow(first)
		before := copyOfWindow(memory)
		for range 2 {
			for _, x := range windowStepsOn(w) {
				got, _ := wantWindowStep(t, why, w, x)
				spoilWindow(got)
			}
			all, _, _ := wantFinished(t, why, w)
			spoilWindow(all)
			flight, _ := impl.InFlight(w)
			fill(flight)
			stored, _ := impl.StoredIn(w)
			spoilList(stored, "spoilt")
			wantWindow(t, why, w)
		}
		if !sameWindow(seenInWindow(w, memory), before) {
			t.Error("written into the window:", why)
		}
	}
	l := []impl.WinStep{wiSend(), wiSend(), wiTake(0), wiAnswer(0), wiTwice(0), wiTake(0), wiSend()}
	given := []string{"a", "b", "c"}
	for range 2 {
		w, did, _ := impl.PlayWindow(given, l)
		spoilWindow(w)
		spoilList(did, false)
		wantWindowPlay(t, "once more", given, l)
		fresh, _ := impl.NewWindow(given)
		spoilWindow(fresh)
	}
	if !slices.Equal(given, []string{"a", "b", "c"}) {
		t.Error("written into the texts", given)
	}
	TestNewWindow(t)
}

func handsOutWindow(w impl.Window) bool {
	return w.Sent+w.Part.End+cap(w.Texts)+cap(w.Told)+cap(w.Way)+cap(w.Back)+cap(w.Part.Log)+cap(w.Part.Producers) != 0
}

// What is refused hands out nothing, not even an empty list with memory of an argument
// behind it.
func TestRefusedWindowsHandOutNothing(t *testing.T) {
	all := badWindows()
	for why, w := range someWindows() {
		all[why] = w
	}
	for why, first := range all {
		w, _ := roomyWindow(first)
		for _, x := range windowStepsOn(w) {
			if got, ok := impl.StepWindow(w, x); !ok && handsOutWindow(got) {
				t.Error(why, x, got)
			}
		}
		if got, many, ok := impl.FinishWindow(w); !ok && (handsOutWindow(got) || many != 0) {
			t.Error(why, got, many)
		}
		if l, ok := impl.InFlight(w); !ok && cap(l) != 0 {
			t.Error(why, l)
		}
		if l, ok := impl.StoredIn(w); !ok && cap(l) != 0 {
			t.Error(why, l)
		}
	}
	for _, given := range [][]string{texts(13, 1), {strings.Repeat("x", 21)}} {
		if w, ok := impl.NewWindow(given); ok || handsOutWindow(w) {
			t.Error(given, w, ok)
		}
		if w, did, ok := impl.PlayWindow(given, []impl.WinStep{wiSend()}); ok || handsOutWindow(w) || cap(did) != 0 {
			t.Error(given, w, did, ok)
		}
	}
	if w, did, ok := impl.PlayWindow([]string{"a"}, make([]impl.WinStep, 81)); ok || handsOutWindow(w) || cap(did) != 0 {
		t.Error("one step too many", w, did, ok)
	}
}

// What was in flight is not left behind the ends of the lists that FinishWindow answers.
func TestNothingInFlightIsLeftBehind(t *testing.T) {
	for why, w := range tightWindows() {
		got, _, _ := impl.FinishWindow(w)
		for _, k := range got.Way[:cap(got.Way)] {
			if k != 0 {
				t.Error(why, k)
			}
		}
		for _, r := range got.Back[:cap(got.Back)] {
			if r != (impl.Reply{}) {
				t.Error(why, r)
			}
		}
	}
}

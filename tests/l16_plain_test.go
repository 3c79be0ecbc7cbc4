package tests

import (
	"math/rand/v2"
	"slices"

	"loop.example/g00361/impl"
)

// What chapter 16 says, written once more in the plainest way: text by text, each limit
// as a number, and room looked for by each step that puts something on a way.

// plainWindow has any texts at its beginning, however many.
func plainWindow(texts ...string) impl.Window {
	return impl.Window{
		Texts: slices.Clone(texts),
		Told:  make([]bool, len(texts)),
		Part:  partOf(impl.Ask{Records: []string{""}}),
	}
}

func plainTextsGood(texts []string) bool {
	if len(texts) > 12 {
		return false
	}
	for _, s := range texts {
		if len(s) > 20 {
			return false
		}
	}
	return true
}

func plainNewWindow(texts []string) (impl.Window, bool) {
	if !plainTextsGood(texts) {
		return impl.Window{}, false
	}
	return plainWindow(texts...), true
}

// plainTextsIn are all texts that the part has of the producer, in order.
func plainTextsIn(p impl.Part) []string {
	var l []string
	for _, b := range batchesOf(p.Log, 7) {
		l = append(l, b.Records...)
	}
	return l
}

func plainStoreGood(w impl.Window) bool {
	if !plainPartGood(w.Part) {
		return false
	}
	for k, b := range batchesOf(w.Part.Log, 7) {
		if b.Epoch != 0 || b.Seq != k || len(b.Records) != 1 {
			return false
		}
	}
	stored := plainTextsIn(w.Part)
	if len(stored) > w.Sent {
		return false
	}
	for k, s := range stored {
		if w.Texts[k] != s {
			return false
		}
	}
	for k, told := range w.Told {
		if told && k >= len(stored) {
			return false
		}
	}
	return true
}

func plainNotTold(w impl.Window) []int {
	var l []int
	for k := range w.Sent {
		if !w.Told[k] {
			l = append(l, k)
		}
	}
	return l
}

func plainWindowGood(w impl.Window) bool {
	if !plainTextsGood(w.Texts) || w.Sent < 0 || w.Sent > len(w.Texts) || len(w.Told) != len(w.Texts) {
		return false
	}
	for k, told := range w.Told {
		if told && k >= w.Sent {
			return false
		}
	}
	if len(plainNotTold(w)) > 5 || len(w.Way) > 20 || len(w.Back) > 20 {
		return false
	}
	for _, k := range w.Way {
		if k < 0 || k >= w.Sent {
			return false
		}
	}
	for _, r := range w.Back {
		if r.Seq < 0 || r.Seq >= w.Sent || r.Code < 0 || r.Code > 5 {
			return false
		}
	}
	return plainStoreGood(w)
}

func plainWiSend(w *impl.Window) bool {
	if w.Sent == len(w.Texts) || len(w.Way) == 20 || len(plainNotTold(*w)) >= 5 {
		return false
	}
	w.Way = append(w.Way, w.Sent)
	w.Sent++
	return true
}

func plainWiAgain(w *impl.Window, k int) bool {
	if k < 0 || k >= w.Sent || w.Told[k] || len(w.Way) == 20 {
		return false
	}
	w.Way = append(w.Way, k)
	return true
}

func plainWiTake(w *impl.Window, k int) bool {
	if k < 0 || k >= len(w.Way) {
		return false
	}
	seq := w.Way[k]
	w.Way = append(w.Way[:k], w.Way[k+1:]...)
	part, code, _, ok := plainAsked(w.Part, impl.Ask{Id: 7, Epoch: 0, Seq: seq, Records: []string{w.Texts[seq]}})
	if !ok {
		panic("no ask")
	}
	w.Part = part
	if len(w.Back) < 20 {
		w.Back = append(w.Back, impl.Reply{Seq: seq, Code: code})
	}
	return true
}

func plainWiLose(w *impl.Window, k int) bool {
	if k < 0 || k >= len(w.Way) {
		return false
	}
	w.Way = append(w.Way[:k], w.Way[k+1:]...)
	return true
}

func plainWiTwice(w *impl.Window, k int) bool {
	if k < 0 || k >= len(w.Way) || len(w.Way) == 20 {
		return false
	}
	w.Way = append(w.Way, w.Way[k])
	return true
}

// plainWiAnswer does nothing where a text were Told that the part does not have.
func plainWiAnswer(w *impl.Window, k int) bool {
	if k < 0 || k >= len(w.Back) {
		return false
	}
	r := w.Back[k]
	if r.Code == 0 || r.Code == 1 || r.Code == 2 {
		if r.Seq >= len(plainTextsIn(w.Part)) {
			return false
		}
		w.Told[r.Seq] = true
	}
	w.Back = append(w.Back[:k], w.Back[k+1:]...)
	return true
}

func plainWiDrop(w *impl.Window, k int) bool {
	if k < 0 || k >= len(w.Back) {
		return false
	}
	w.Back = append(w.Back[:k], w.Back[k+1:]...)
	return true
}

func plainWindowStep(w impl.Window, x impl.WinStep) (impl.Window, bool) {
	if !plainWindowGood(w) {
		return impl.Window{}, false
	}
	w = copyOfWindow(w)
	done := false
	switch x.Kind {
	case 1:
		done = x.K == 0 && plainWiSend(&w)
	case 2:
		done = plainWiAgain(&w, x.K)
	case 3:
		done = plainWiTake(&w, x.K)
	case 4:
		done = plainWiLose(&w, x.K)
	case 5:
		done = plainWiTwice(&w, x.K)
	case 6:
		done = plainWiAnswer(&w, x.K)
	case 7:
		done = plainWiDrop(&w, x.K)
	}
	if !done {
		return impl.Window{}, false
	}
	return w, true
}

func plainWindowPlay(texts []string, l []impl.WinStep) (impl.Window, []bool, bool) {
	w, ok := plainNewWindow(texts)
	if !ok || len(l) > 80 {
		return impl.Window{}, nil, false
	}
	var did []bool
	for _, x := range l {
		next, done := plainWindowStep(w, x)
		if done {
			w = next
		}
		did = append(did, done)
	}
	return w, did, true
}

func plainInFlight(w impl.Window) ([]int, bool) {
	if !plainWindowGood(w) {
		return nil, false
	}
	return plainNotTold(w), true
}

// plainFinishWindow looks at each text alone: those that are not stored need a place
// each, and the producer needs one where it has nothing yet.
func plainFinishWindow(w impl.Window) (impl.Window, int, bool) {
	if !plainWindowGood(w) {
		return impl.Window{}, 0, false
	}
	stored := len(plainTextsIn(w.Part))
	missing := len(w.Texts) - stored
	if len(w.Part.Log)+missing > 60 || missing > 0 && stored == 0 && len(w.Part.Producers) == 4 {
		return impl.Window{}, 0, false
	}
	w = copyOfWindow(w)
	many := 0
	for k, told := range w.Told {
		if !told {
			many++
		}
		w.Told[k] = true
	}
	log := w.Part.Log
	for k := stored; k < len(w.Texts); k++ {
		log = append(log, impl.Batch{Offset: manyRecords(log), Producer: 7, Seq: k, Records: []string{w.Texts[k]}})
	}
	w.Part, _ = plainRebuilt(log)
	w.Way, w.Back, w.Sent = nil, nil, len(w.Texts)
	return w, many, true
}

func plainStoredIn(w impl.Window) ([]string, bool) {
	if !plainWindowGood(w) {
		return nil, false
	}
	return plainTextsIn(w.Part), true
}

func wiSend() impl.WinStep {
	return impl.WinStep{Kind: impl.WiSend}
}

func wiAgain(k int) impl.WinStep {
	return impl.WinStep{Kind: impl.WiAgain, K: k}
}

func wiTake(k int) impl.WinStep {
	return impl.WinStep{Kind: impl.WiTake, K: k}
}

func wiLose(k int) impl.WinStep {
	return impl.WinStep{Kind: impl.WiLose, K: k}
}

func wiTwice(k int) impl.WinStep {
	return impl.WinStep{Kind: impl.WiTwice, K: k}
}

func wiAnswer(k int) impl.WinStep {
	return impl.WinStep{Kind: impl.WiAnswer, K: k}
}

func wiDrop(k int) impl.WinStep {
	return impl.WinStep{Kind: impl.WiDrop, K: k}
}

// windowAfter is where steps lead; each must be done.
func windowAfter(w impl.Window, l ...impl.WinStep) impl.Window {
	for _, x := range l {
		next, ok := plainWindowStep(w, x)
		if !ok {
			panic("no step")
		}
		w = next
	}
	return w
}

func sameWindow(a, b impl.Window) bool {
	return slices.Equal(a.Texts, b.Texts) && a.Sent == b.Sent && slices.Equal(a.Told, b.Told) &&
		slices.Equal(a.Way, b.Way) && slices.Equal(a.Back, b.Back) && samePart(a.Part, b.Part)
}

// copyOfWindow shares no list with what it is given.
func copyOfWindow(w impl.Window) impl.Window {
	w.Texts, w.Told = slices.Clone(w.Texts), slices.Clone(w.Told)
	w.Way, w.Back = slices.Clone(w.Way), slices.Clone(w.Back)
	w.Part = copyOfPart(w.Part)
	return w
}

// windowStepsOn are all steps, and those right beside them, that such a window has.
func windowStepsOn(w impl.Window) []impl.WinStep {
	last := min(21, max(len(w.Texts), len(w.Way), len(w.Back))) + 1
	var l []impl.WinStep
	for kind := -1; kind <= 9; kind++ {
		for k := -1; k <= last; k++ {
			l = append(l, impl.WinStep{Kind: kind, K: k})
		}
	}
	return l
}

// randomTexts are such as a window may have, now and then two alike.
func randomTexts(r *rand.Rand, least int) []string {
	var l []string
	for range least + r.IntN(13-least) {
		if len(l) > 0 && r.IntN(6) == 0 {
			l = append(l, l[r.IntN(len(l))])
			continue
		}
		l = append(l, randomText(r, r.IntN(21)))
	}
	return l
}

// somePlace is one of so many, mostly the first one.
func somePlace(r *rand.Rand, many int) int {
	if many == 0 || r.IntN(3) > 0 {
		return 0
	}
	return r.IntN(many)
}

// randomWindowStep is one that mostly can be done, and mostly brings something on.
func randomWindowStep(r *rand.Rand, now impl.Window) impl.WinStep {
	flight := plainNotTold(now)
	switch r.IntN(20) {
	case 0, 1, 2, 3, 4:
		return wiSend()
	case 5, 6:
		if len(flight) > 0 {
			return wiAgain(flight[somePlace(r, len(flight))])
		}
		return wiAgain(somePlace(r, len(now.Texts)))
	case 7, 8, 9, 10, 11:
		return wiTake(somePlace(r, len(now.Way)))
	case 12:
		return wiLose(somePlace(r, len(now.Way)))
	case 13:
		return wiTwice(somePlace(r, len(now.Way)))
	case 14, 15, 16, 17:
		return wiAnswer(somePlace(r, len(now.Back)))
	case 18:
		return wiDrop(somePlace(r, len(now.Back)))
	}
	return impl.WinStep{Kind: r.IntN(10) - 1, K: r.IntN(14) - 1}
}

// randomWindowSteps are such steps, each for where those ahead of it lead.
func randomWindowSteps(r *rand.Rand, texts []string, many int) []impl.WinStep {
	now := plainWindow(texts...)
	var l []impl.WinStep
	for range many {
		x := randomWindowStep(r, now)
		l = append(l, x)
		if next, done := plainWindowStep(now, x); done {
			now = next
		}
	}
	return l
}

// randomWindow is one that steps lead to.
func randomWindow(r *rand.Rand) impl.Window {
	texts := randomTexts(r, 0)
	w, _, _ := plainWindowPlay(texts, randomWindowSteps(r, texts, r.IntN(81)))
	return w
}

// storing is a part to which others come before, in between and behind the first texts.
// Now and then there is too little room.
func storing(r *rand.Rand, texts []string, stored int) impl.Part {
	p := impl.Part{}
	switch r.IntN(6) {
	case 0:
		p = partOf(sixty(4, r.IntN(16))...)
	case 1:
		p = partOf(ask(0, 0, 0, 1), ask(4, 0, 0, 1), ask(300, 1, 0, 1), ask(65535, 0, 0, 1))
	}
	other := func() {
		for range r.IntN(3) {
			p, _, _, _ = plainAsked(p, randomAsk(r, p))
		}
	}
	other()
	for seq := range stored {
		next, code, _, ok := plainAsked(p, impl.Ask{Id: 7, Seq: seq, Records: texts[seq : seq+1]})
		if !ok || code != 0 {
			break
		}
		p = next
		other()
	}
	return p
}

// anyWindow is good by chance alone: what is Told, on the Way and Back has nothing to do
// with how it came.
func anyWindow(r *rand.Rand) impl.Window {
	w := plainWindow(randomTexts(r, 0)...)
	w.Sent = r.IntN(len(w.Texts) + 1)
	w.Part = storing(r, w.Texts, r.IntN(w.Sent+1))
	stored := len(plainTextsIn(w.Part))
	for k := range stored {
		w.Told[k] = r.IntN(3) > 0
	}
	w.Sent = max(stored, min(w.Sent, stored+5))
	for k := 0; len(plainNotTold(w)) > 5; k++ {
		if k < stored {
			w.Told[k] = true
		} else {
			w.Sent--
		}
	}
	if w.Sent == 0 {
		return w
	}
	for range []int{0, 1, 4, 19, 20}[r.IntN(5)] {
		w.Way = append(w.Way, r.IntN(w.Sent))
	}
	for range []int{0, 1, 4, 19, 20}[r.IntN(5)] {
		w.Back = append(w.Back, impl.Reply{Seq: r.IntN(w.Sent), Code: r.IntN(6)})
	}
	return w
}

package tests

import (
	"fmt"
	"math"
	"slices"
	"strings"
	"testing"

	"loop.example/g00361/impl"
)

// Chapter 16, function by function and step by step. That the first texts are there, each
// once, stands in l16_first_test.go.

// wantWindow holds all answers of a window but its steps against what the plain words
// tell.
func wantWindow(t *testing.T, why string, w impl.Window) {
	t.Helper()
	if got, want := impl.GoodWindow(w), plainWindowGood(w); got != want {
		t.Errorf("%s: GoodWindow %v: %v", why, w, got)
	}
	flight, wanted := plainInFlight(w)
	if got, ok := impl.InFlight(w); !slices.Equal(got, flight) || ok != wanted {
		t.Errorf("%s: InFlight %v: %v %v", why, w, got, ok)
	}
	stored, wanted := plainStoredIn(w)
	if got, ok := impl.StoredIn(w); !slices.Equal(got, stored) || ok != wanted {
		t.Errorf("%s: StoredIn %v: %v %v", why, w, got, ok)
	}
	wantFinished(t, why, w)
}

// wantFinished does so of FinishWindow, and tells where it leads.
func wantFinished(t *testing.T, why string, w impl.Window) (impl.Window, int, bool) {
	t.Helper()
	want, wantMany, wanted := plainFinishWindow(w)
	got, many, ok := impl.FinishWindow(w)
	if !sameWindow(got, want) || many != wantMany || ok != wanted {
		t.Errorf("%s: FinishWindow %v: %v %d %v", why, w, got, many, ok)
	}
	if ok && !impl.GoodWindow(got) {
		t.Errorf("%s: FinishWindow %v: not good: %v", why, w, got)
	}
	return got, many, ok
}

// wantWindowStep does so of a step.
func wantWindowStep(t *testing.T, why string, w impl.Window, x impl.WinStep) (impl.Window, bool) {
	t.Helper()
	want, wanted := plainWindowStep(w, x)
	got, ok := impl.StepWindow(w, x)
	if !sameWindow(got, want) || ok != wanted {
		t.Errorf("%s: StepWindow %v %v: %v %v", why, w, x, got, ok)
	}
	if ok && !impl.GoodWindow(got) {
		t.Errorf("%s: StepWindow %v %v: not good: %v", why, w, x, got)
	}
	return got, ok
}

func wantWindowSteps(t *testing.T, why string, w impl.Window) {
	t.Helper()
	wantWindow(t, why, w)
	for _, x := range windowStepsOn(w) {
		wantWindowStep(t, why, w, x)
	}
}

// wantWindowChanged asks of a step that it leads to a window as the change tells.
func wantWindowChanged(t *testing.T, why string, w impl.Window, x impl.WinStep, change func(w *impl.Window)) {
	t.Helper()
	want := copyOfWindow(w)
	change(&want)
	if got, ok := impl.StepWindow(w, x); !ok || !sameWindow(got, want) || !impl.GoodWindow(got) {
		t.Errorf("%s: StepWindow %v %v: %v %v", why, w, x, got, ok)
	}
}

// wantNoWindowStep asks that nothing is handed out of a step of a good window.
func wantNoWindowStep(t *testing.T, why string, w impl.Window, x impl.WinStep) {
	t.Helper()
	if !impl.GoodWindow(w) {
		t.Errorf("%s: not good: %v", why, w)
	}
	if got, ok := impl.StepWindow(w, x); ok || !sameWindow(got, impl.Window{}) {
		t.Errorf("%s: StepWindow %v %v: %v %v", why, w, x, got, ok)
	}
}

func wantWindowPlay(t *testing.T, why string, texts []string, l []impl.WinStep) {
	t.Helper()
	want, wantDid, wanted := plainWindowPlay(texts, l)
	got, did, ok := impl.PlayWindow(texts, l)
	if !sameWindow(got, want) || !slices.Equal(did, wantDid) || ok != wanted {
		t.Errorf("%s: PlayWindow %q %v: %v %v %v", why, texts, l, got, did, ok)
	}
}

func TestTheNamedNumbersOfWindows(t *testing.T) {
	got := []int{impl.MaxTexts, impl.MaxFlight, impl.MaxWinSteps, impl.WiSend, impl.WiAgain, impl.WiTake, impl.WiLose, impl.WiTwice, impl.WiAnswer, impl.WiDrop}
	if !slices.Equal(got, []int{12, 5, 80, 1, 2, 3, 4, 5, 6, 7}) {
		t.Error(got)
	}
}

func wantNewWindow(t *testing.T, texts []string) {
	t.Helper()
	w, ok := impl.NewWindow(texts)
	if !ok || !slices.Equal(w.Texts, texts) || w.Sent != 0 || len(w.Way) != 0 || len(w.Back) != 0 || !impl.GoodWindow(w) {
		t.Error(texts, w, ok)
	}
	if !slices.Equal(w.Told, make([]bool, len(texts))) || !samePart(w.Part, impl.NewPart()) {
		t.Error("something is Told or stored", texts, w)
	}
	if got, did, ok := impl.PlayWindow(texts, nil); !ok || len(did) != 0 || !sameWindow(got, w) {
		t.Error("no step", got, did, ok)
	}
}

func wantNoWindow(t *testing.T, texts []string) {
	t.Helper()
	if w, ok := impl.NewWindow(texts); ok || !sameWindow(w, impl.Window{}) {
		t.Error(texts, w, ok)
	}
	if w, did, ok := impl.PlayWindow(texts, []impl.WinStep{wiSend()}); ok || len(did) != 0 || !sameWindow(w, impl.Window{}) {
		t.Error(texts, w, did, ok)
	}
}

func TestNewWindow(t *testing.T) {
	wantNewWindow(t, nil)
	wantNewWindow(t, []string{})
	for many := range 13 {
		wantNewWindow(t, texts(many, 1))
		wantNewWindow(t, texts(many, 20))
		wantNewWindow(t, make([]string, many))
	}
	for _, many := range []int{13, 14, 60} {
		wantNoWindow(t, texts(many, 1))
		wantNoWindow(t, make([]string, many))
	}
	for at := range 12 {
		for bytes, good := range map[int]bool{0: true, 1: true, 19: true, 20: true, 21: false, 22: false, 600: false} {
			l := texts(12, 3)
			l[at] = strings.Repeat("\xff", bytes)
			if good {
				wantNewWindow(t, l)
			} else {
				wantNoWindow(t, l)
				wantNoWindow(t, l[at:at+1])
			}
		}
	}
	wantNewWindow(t, []string{"two alike", "two alike", "\x00", "\n"})
}

// partWith has such batches behind one of NewPart; of the producer 7 they have the texts
// that are told, one a batch.
func partWith(texts []string, asks ...impl.Ask) impl.Part {
	seq := 0
	all := []impl.Ask{{Records: []string{""}}}
	for _, a := range asks {
		if a.Id == 7 {
			a.Seq, a.Records = seq, texts[seq:seq+1]
			seq++
		}
		all = append(all, a)
	}
	return partOf(all...)
}

// storedAlone is a part with so many of the texts, each in a batch of its own.
func storedAlone(texts []string, stored int) impl.Part {
	return partWith(texts, slices.Repeat([]impl.Ask{{Id: 7}}, stored)...)
}

func windowTexts() []string {
	return []string{"a", "b", "b", "", strings.Repeat("e", 20), "f", "g", "h"}
}

// underWay is a window of eight texts: six are sent, four are stored, two of these are
// Told; others ask of the part, too.
func underWay() impl.Window {
	l := windowTexts()
	own := impl.Ask{Id: 7}
	return impl.Window{
		Texts: l,
		Sent:  6,
		Told:  []bool{true, false, true, false, false, false, false, false},
		Way:   []int{4, 1, 4, 5, 0},
		Back:  []impl.Reply{{Seq: 1, Code: impl.AskAgain}, {Seq: 3, Code: impl.AskOk}, {Seq: 5, Code: impl.AskGap}, {Seq: 0, Code: impl.AskOld}},
		Part:  partWith(l, ask(3, 2, 0, 2), own, own, ask(9, 0, 0, 1), own, ask(3, 2, 2, 1), own),
	}
}

func changedWindow(change func(w *impl.Window)) impl.Window {
	w := underWay()
	change(&w)
	return w
}

func someWindows() map[string]impl.Window {
	l := texts(12, 20)
	five := slices.Repeat([]impl.WinStep{wiSend()}, 5)
	all := map[string]impl.Window{
		"nothing at all":    {},
		"empty lists":       {Texts: []string{}, Told: []bool{}, Way: []int{}, Back: []impl.Reply{}},
		"no text":           plainWindow(),
		"one text":          plainWindow("a"),
		"a text of no byte": plainWindow(""),
		"twelve texts":      plainWindow(l...),
		"five sent":         windowAfter(plainWindow(l...), five...),
		"one taken":         windowAfter(plainWindow("a"), wiSend(), wiTake(0)),
		"one Told":          windowAfter(plainWindow("a", "b"), wiSend(), wiTake(0), wiAnswer(0)),
		"one again":         windowAfter(plainWindow("a", "b"), wiSend(), wiTake(0), wiAgain(0)),
		"under way":         underWay(),
		"all Told":          {Texts: l, Sent: 12, Told: slices.Repeat([]bool{true}, 12), Part: storedAlone(l, 12)},
		"all Told, on ways": {Texts: l, Sent: 12, Told: slices.Repeat([]bool{true}, 12), Way: steps(12, 0, 1), Back: []impl.Reply{{Seq: 11, Code: 5}}, Part: storedAlone(l, 12)},
		"no batch at all":   {Texts: l, Told: make([]bool, 12)},
	}
	for why, change := range goodWindowChanges() {
		all[why] = changedWindow(change)
	}
	return all
}

// goodWindowChanges each leave underWay good.
func goodWindowChanges() map[string]func(w *impl.Window) {
	all := map[string]func(w *impl.Window){
		"as many sent as texts":       func(w *impl.Window) { *w = withAllSent(*w) },
		"five in flight":              func(w *impl.Window) { w.Sent = 7 },
		"none Told, five in flight":   func(w *impl.Window) { w.Sent, w.Told, w.Way, w.Back = 5, make([]bool, 8), nil, nil },
		"all that is stored Told":     func(w *impl.Window) { w.Told[1], w.Told[3] = true, true },
		"stored are just those sent":  func(w *impl.Window) { w.Sent, w.Way, w.Back = 4, nil, nil },
		"stored are just those Told":  func(w *impl.Window) { w.Told[1] = true; w.Part = storedAlone(w.Texts, 3) },
		"nothing Told nor stored":     func(w *impl.Window) { *w = withNothingStored(*w, impl.NewPart()) },
		"nothing in the part":         func(w *impl.Window) { *w = withNothingStored(*w, impl.Part{}) },
		"nothing on the Way":          func(w *impl.Window) { w.Way = nil },
		"on the Way the first number": func(w *impl.Window) { w.Way = []int{0} },
		"on the Way the last number":  func(w *impl.Window) { w.Way = []int{5} },
		"twenty on the Way":           func(w *impl.Window) { w.Way = slices.Repeat([]int{5, 0, 3, 4}, 5) },
		"nothing Back":                func(w *impl.Window) { w.Back = nil },
		"twenty Back":                 func(w *impl.Window) { w.Back = slices.Repeat([]impl.Reply{{Seq: 5}, {Seq: 0, Code: 5}}, 10) },
		"twenty on both":              func(w *impl.Window) { w.Way, w.Back = make([]int, 20), make([]impl.Reply, 20) },
		"without other producers":     func(w *impl.Window) { w.Part = storedAlone(w.Texts, 4) },
		"without the first batch":     func(w *impl.Window) { w.Part = partOf(inWindow(w.Texts, 4)...) },
		"others have more in a batch": func(w *impl.Window) { w.Part = partWith(w.Texts, withOthersOfEight(4)...) },
		"four other producers":        func(w *impl.Window) { *w = withoutRoom(*w) },
		"sixty batches":               func(w *impl.Window) { w.Part = withSixty(w.Texts, 4, 0) },
		"fifty-nine batches":          func(w *impl.Window) { w.Part = withSixty(w.Texts, 4, 1) },
		"one batch too few":           func(w *impl.Window) { w.Part = withSixty(w.Texts, 4, 3) },
		"just batches enough":         func(w *impl.Window) { w.Part = withSixty(w.Texts, 4, 4) },
		"the greatest Epochs beside": func(w *impl.Window) {
			w.Part = partWith(w.Texts, slices.Concat(inRow(6, 1000, 1), slices.Repeat([]impl.Ask{{Id: 7}}, 4), inRow(8, 1000, 1))...)
		},
	}
	for code := range 6 {
		for _, seq := range []int{0, 4, 5} {
			all[fmt.Sprint("a reply ", seq, " of the code ", code)] = func(w *impl.Window) { w.Back = []impl.Reply{{Seq: seq, Code: code}, {}} }
		}
	}
	return all
}

// inWindow are the asks for so many texts.
func inWindow(texts []string, many int) []impl.Ask {
	var l []impl.Ask
	for k := range many {
		l = append(l, impl.Ask{Id: 7, Seq: k, Records: texts[k : k+1]})
	}
	return l
}

// withOthersOfEight are so many asks of the producer, among those of others for many
// records each.
func withOthersOfEight(many int) []impl.Ask {
	var l []impl.Ask
	for k := range many {
		l = append(l, ask(6, 0, 8*k, 8), impl.Ask{Id: 7}, ask(8, 0, 2*k, 2))
	}
	return l
}

func withAllSent(w impl.Window) impl.Window {
	w.Sent, w.Told[1] = 8, true
	w.Way = []int{7, 0}
	return w
}

// withNothingStored has five in flight, and such a part.
func withNothingStored(w impl.Window, p impl.Part) impl.Window {
	w.Sent, w.Told, w.Part = 5, make([]bool, 8), p
	w.Way, w.Back = []int{0, 4}, []impl.Reply{{Seq: 0, Code: impl.AskFull}}
	return w
}

// withoutRoom has a part that has no room for another producer.
func withoutRoom(w impl.Window) impl.Window {
	return withNothingStored(w, partOf(ask(0, 0, 0, 1), ask(6, 0, 0, 1), ask(8, 0, 0, 1), ask(9, 0, 0, 1)))
}

// withSixty is a part with so many texts stored, and room for so many batches.
func withSixty(texts []string, stored int, room int) impl.Part {
	return partOf(append(sixty(3, stored+room), inWindow(texts, stored)...)...)
}

func badWindows() map[string]impl.Window {
	all := map[string]impl.Window{
		"thirteen texts":           plainWindow(texts(13, 1)...),
		"thirteen texts of none":   plainWindow(make([]string, 13)...),
		"a text too long":          plainWindow(texts(1, 21)...),
		"the last text too long":   plainWindow("a", "b", strings.Repeat("c", 21)),
		"a Told, no text":          {Told: []bool{false}},
		"a text, no Told":          {Texts: []string{""}},
		"one sent, no text":        {Sent: 1},
		"Sent below 0, no text":    {Sent: -1},
		"a number, no text":        {Way: []int{0}},
		"a reply, no text":         {Back: []impl.Reply{{}}},
		"a number, nothing sent":   {Texts: []string{""}, Told: []bool{false}, Way: []int{0}},
		"a number of -1, the same": {Texts: []string{""}, Told: []bool{false}, Way: []int{-1}},
		"a reply, nothing sent":    {Texts: []string{""}, Told: []bool{false}, Back: []impl.Reply{{}}},
		"an End alone":             {Part: impl.Part{End: 1}},
		"stored, no text":          {Part: storedAlone([]string{""}, 1)},
		"stored, nothing sent":     {Texts: []string{""}, Told: []bool{false}, Part: storedAlone([]string{""}, 1)},
	}
	for why, change := range badWindowChanges() {
		all[why] = changedWindow(change)
	}
	for why, p := range badParts() {
		all["a part: "+why] = changedWindow(func(w *impl.Window) { w.Part = p })
		all["a part, no text: "+why] = impl.Window{Part: p}
	}
	for _, at := range []int{0, 2, 4} {
		for _, n := range []int{-2, -1, 6, 7, 8, 64} {
			all[fmt.Sprint("on the Way ", n, " at ", at)] = changedWindow(func(w *impl.Window) { w.Way[at] = n })
		}
	}
	for _, at := range []int{0, 3} {
		for _, n := range []int{-2, -1, 6, 7, 8, 64} {
			all[fmt.Sprint("a reply ", at, " with the Seq ", n)] = changedWindow(func(w *impl.Window) { w.Back[at].Seq = n })
			all[fmt.Sprint("a reply ", at, " with the code ", n)] = changedWindow(func(w *impl.Window) { w.Back[at].Code = n })
		}
	}
	return all
}

// badWindowChanges each spoil underWay by one thing.
func badWindowChanges() map[string]func(w *impl.Window) {
	return map[string]func(w *impl.Window){
		"Sent of -1":                     func(w *impl.Window) { w.Sent = -1 },
		"Sent of -1, nothing else":       func(w *impl.Window) { *w = plainWindow(w.Texts...); w.Sent = -1 },
		"Sent of 0":                      func(w *impl.Window) { w.Sent = 0 },
		"Sent below what is on the Way":  func(w *impl.Window) { w.Sent = 5 },
		"Sent of one more than texts":    func(w *impl.Window) { *w = withAllSent(*w); w.Sent = 9 },
		"six in flight":                  func(w *impl.Window) { w.Sent = 8 },
		"six in flight, none of ways":    func(w *impl.Window) { w.Sent, w.Way, w.Back = 8, nil, nil },
		"six in flight, none Told":       func(w *impl.Window) { w.Told = make([]bool, 8) },
		"one Told fewer":                 func(w *impl.Window) { w.Told = w.Told[:7] },
		"one Told more":                  func(w *impl.Window) { w.Told = append(w.Told, false) },
		"nothing as Told":                func(w *impl.Window) { w.Told = nil },
		"one text fewer":                 func(w *impl.Window) { w.Texts = w.Texts[:7] },
		"one text more":                  func(w *impl.Window) { w.Texts = append(w.Texts, "more") },
		"no texts":                       func(w *impl.Window) { w.Texts = nil },
		"a text of 21 bytes":             func(w *impl.Window) { w.Texts[7] = strings.Repeat("h", 21) },
		"Told of the next text":          func(w *impl.Window) { w.Told[6] = true },
		"Told of the last text":          func(w *impl.Window) { w.Told[7] = true },
		"Told of one not stored":         func(w *impl.Window) { w.Told[4] = true },
		"Told of the last one sent":      func(w *impl.Window) { w.Told[5] = true },
		"Told ahead of what is stored":   func(w *impl.Window) { w.Told[0], w.Told[2], w.Told[5] = false, false, true; w.Sent = 6 },
		"as many Told as stored, others": func(w *impl.Window) { w.Part = storedAlone(w.Texts, 2) },
		"fewer stored than Told":         func(w *impl.Window) { w.Part = storedAlone(w.Texts, 1) },
		"nothing stored":                 func(w *impl.Window) { w.Part = impl.NewPart() },
		"no batches":                     func(w *impl.Window) { w.Part = impl.Part{} },
		"more stored than sent":          func(w *impl.Window) { w.Part = storedAlone(w.Texts, 7) },
		"all stored":                     func(w *impl.Window) { w.Part = storedAlone(w.Texts, 8) },
		"more stored than texts":         func(w *impl.Window) { w.Part = storedAlone(append(slices.Clone(w.Texts), "more"), 9) },
		"many more stored":               func(w *impl.Window) { w.Part = partOf(inRow(7, 0, slices.Repeat([]int{8}, 60)...)...) },
		"stored under Sent 3":            func(w *impl.Window) { w.Sent, w.Way, w.Back = 3, nil, nil },
		"another first text":             func(w *impl.Window) { w.Texts[0] = "x" },
		"another last text stored":       func(w *impl.Window) { w.Texts[3] = "x" },
		"a text that goes on":            func(w *impl.Window) { w.Texts[0] = "ab" },
		"texts turned round":             func(w *impl.Window) { slices.Reverse(w.Texts[:4]) },
		"two texts in one":               func(w *impl.Window) { w.Part = storedAlone([]string{"ab", "b", "", "e"}, 3) },
		"stored from the second on":      func(w *impl.Window) { w.Part = storedAlone(w.Texts[1:], 3) },
		"all stored in one batch":        func(w *impl.Window) { w.Part = partOf(impl.Ask{Id: 7, Records: w.Texts[:4]}) },
		"the first two in one batch":     func(w *impl.Window) { w.Part = partOf(inBatches(w.Texts, 2, 1, 1)...) },
		"the last two in one batch":      func(w *impl.Window) { w.Part = partOf(inBatches(w.Texts, 1, 1, 2)...) },
		"the two between in one batch":   func(w *impl.Window) { w.Part = partOf(inBatches(w.Texts, 1, 2, 1)...) },
		"one batch, nothing Told":        func(w *impl.Window) { w.Told, w.Sent, w.Part = make([]bool, 8), 5, partOf(inBatches(w.Texts, 2)...) },
		"one batch of another text":      func(w *impl.Window) { w.Part = partOf(impl.Ask{Id: 7, Records: []string{"a", "b", "b", "x"}}) },
		"one batch of too much":          func(w *impl.Window) { w.Part = partOf(impl.Ask{Id: 7, Records: w.Texts[:7]}) },
		"stored with Epoch 1":            func(w *impl.Window) { *w = withEpochOf(*w, inEpoch(w.Texts, 1, 4)) },
		"stored with Epoch 1000":         func(w *impl.Window) { *w = withEpochOf(*w, inEpoch(w.Texts, 1000, 4)) },
		"then again with Epoch 1":        func(w *impl.Window) { *w = withEpochOf(*w, append(inWindow(w.Texts, 4), inEpoch(w.Texts, 1, 4)...)) },
		"then one with Epoch 1":          func(w *impl.Window) { *w = withEpochOf(*w, append(inWindow(w.Texts, 4), inEpoch(w.Texts, 1, 1)...)) },
		"of Epoch 1, nothing Told":       func(w *impl.Window) { *w = withEpochOf(plainWindow(w.Texts...), inEpoch(w.Texts, 1, 1)); w.Sent = 5 },
		"twenty-one on the Way":          func(w *impl.Window) { w.Way = make([]int, 21) },
		"twenty-one Back":                func(w *impl.Window) { w.Back = make([]impl.Reply, 21) },
	}
}

// inBatches are the asks for the first texts, so many of them in each.
func inBatches(texts []string, many ...int) []impl.Ask {
	var l []impl.Ask
	seq := 0
	for _, n := range many {
		l = append(l, impl.Ask{Id: 7, Seq: seq, Records: texts[seq : seq+n]})
		seq += n
	}
	return l
}

// inEpoch are the asks for so many texts of another Epoch.
func inEpoch(texts []string, epoch int, many int) []impl.Ask {
	l := inWindow(texts, many)
	for i := range l {
		l[i].Epoch = epoch
	}
	return l
}

func withEpochOf(w impl.Window, asks []impl.Ask) impl.Window {
	w.Part = partOf(asks...)
	return w
}

func TestGoodWindows(t *testing.T) {
	for why, w := range someWindows() {
		if !impl.GoodWindow(w) {
			t.Error(why, w)
		}
		wantWindowSteps(t, why, w)
	}
}

func TestBadWindows(t *testing.T) {
	for why, w := range badWindows() {
		if impl.GoodWindow(w) {
			t.Error(why, w)
		}
		wantWindow(t, why, w)
		for _, x := range windowStepsOn(w) {
			if got, ok := impl.StepWindow(w, x); ok || !sameWindow(got, impl.Window{}) {
				t.Error(why, x, got, ok)
			}
		}
		if l, ok := impl.InFlight(w); ok || len(l) != 0 {
			t.Error(why, l, ok)
		}
		if l, ok := impl.StoredIn(w); ok || len(l) != 0 {
			t.Error(why, l, ok)
		}
		if got, many, ok := impl.FinishWindow(w); ok || many != 0 || !sameWindow(got, impl.Window{}) {
			t.Error(why, got, many, ok)
		}
	}
}

func TestWindowSend(t *testing.T) {
	wantWindowChanged(t, "the next text", underWay(), wiSend(), func(w *impl.Window) { w.Way, w.Sent = append(w.Way, 6), 7 })
	wantWindowChanged(t, "the first text", plainWindow(""), wiSend(), func(w *impl.Window) { w.Way, w.Sent = []int{0}, 1 })
	last := changedWindow(func(w *impl.Window) { w.Sent, w.Told[1] = 7, true })
	wantWindowChanged(t, "the last text", last, wiSend(), func(w *impl.Window) { w.Way, w.Sent = append(w.Way, 7), 8 })
	wantNoWindowStep(t, "behind the last text", windowAfter(last, wiSend()), wiSend())
	wantNoWindowStep(t, "no text at all", plainWindow(), wiSend())
	wantNoWindowStep(t, "all Told", someWindows()["all Told"], wiSend())
	five := windowAfter(underWay(), wiSend())
	wantNoWindowStep(t, "five in flight", five, wiSend())
	wantWindowChanged(t, "one of the five is Told", windowAfter(five, wiAnswer(0)), wiSend(), func(w *impl.Window) { w.Way, w.Sent = append(w.Way, 7), 8 })
	for many := range 6 {
		w := windowAfter(plainWindow(texts(12, 1)...), slices.Repeat([]impl.WinStep{wiSend()}, many)...)
		if many < 5 {
			wantWindowChanged(t, "up to five", w, wiSend(), func(w *impl.Window) { w.Way, w.Sent = append(w.Way, many), many+1 })
		} else {
			wantNoWindowStep(t, "the sixth", w, wiSend())
			wantNoWindowStep(t, "the sixth, when none of them is on the Way", windowAfter(w, wiTake(0), wiTake(0), wiLose(0), wiLose(0), wiLose(0)), wiSend())
		}
	}
	nineteen := changedWindow(func(w *impl.Window) { w.Way = make([]int, 19) })
	wantWindowChanged(t, "room for one", nineteen, wiSend(), func(w *impl.Window) { w.Way, w.Sent = append(w.Way, 6), 7 })
	wantNoWindowStep(t, "twenty on the Way", changedWindow(func(w *impl.Window) { w.Way = make([]int, 20) }), wiSend())
	for _, k := range []int{math.MinInt, -1, 1, 5, 6, 7, math.MaxInt} {
		wantNoWindowStep(t, "a K that it does not name", underWay(), impl.WinStep{Kind: impl.WiSend, K: k})
	}
}

func TestWindowAgain(t *testing.T) {
	w := underWay()
	for _, k := range []int{1, 3, 4, 5} {
		wantWindowChanged(t, "in flight", w, wiAgain(k), func(w *impl.Window) { w.Way = append(w.Way, k) })
	}
	for _, k := range []int{0, 2} {
		wantNoWindowStep(t, "Told", w, wiAgain(k))
	}
	for _, k := range []int{6, 7} {
		wantNoWindowStep(t, "not sent", w, wiAgain(k))
	}
	for _, k := range []int{math.MinInt, -1, 8, 64, math.MaxInt} {
		wantNoWindowStep(t, "not there", w, wiAgain(k))
	}
	wantNoWindowStep(t, "nothing sent", plainWindow("a"), wiAgain(0))
	wantNoWindowStep(t, "no text", plainWindow(), wiAgain(0))
	for _, many := range []int{0, 18, 19} {
		w.Way = make([]int, many)
		wantWindowChanged(t, "room", w, wiAgain(4), func(w *impl.Window) { w.Way = append(w.Way, 4) })
	}
	w.Way = make([]int, 20)
	for k := range 6 {
		wantNoWindowStep(t, "no room", w, wiAgain(k))
	}
	five := windowAfter(underWay(), wiSend())
	wantWindowChanged(t, "five in flight", five, wiAgain(6), func(w *impl.Window) { w.Way = append(w.Way, 6) })
}

// wantTakenFrom asks that what is taken from a place leaves it, and that such a reply
// comes where there is room, the part being the same but for what is stored.
func wantTakenFrom(t *testing.T, why string, w impl.Window, k int, r impl.Reply) {
	t.Helper()
	wantWindowChanged(t, why, w, wiTake(k), func(w *impl.Window) {
		w.Way = slices.Delete(w.Way, k, k+1)
		if len(w.Back) < 20 {
			w.Back = append(w.Back, r)
		}
		if r.Code == impl.AskOk {
			w.Part, _, _, _ = plainAsked(w.Part, impl.Ask{Id: 7, Seq: r.Seq, Records: []string{w.Texts[r.Seq]}})
		}
	})
	got, _ := impl.StepWindow(w, wiTake(k))
	if more := len(got.Part.Log) - len(w.Part.Log); (more == 1) != (r.Code == impl.AskOk) || more > 1 || more < 0 {
		t.Error(why, "so many more batches:", more)
	}
}

func TestWindowTake(t *testing.T) {
	w := underWay()
	for k, r := range []impl.Reply{{Seq: 4, Code: impl.AskOk}, {Seq: 1, Code: impl.AskAgain}, {Seq: 4, Code: impl.AskOk}, {Seq: 5, Code: impl.AskGap}, {Seq: 0, Code: impl.AskAgain}} {
		wantTakenFrom(t, "under way", w, k, r)
	}
	next := windowAfter(w, wiTake(2))
	if b := next.Part.Log[len(next.Part.Log)-1]; !sameBatch(b, impl.Batch{Offset: 9, Producer: 7, Seq: 4, Records: []string{strings.Repeat("e", 20)}}) {
		t.Error("another batch comes", b)
	}
	wantTakenFrom(t, "once more", next, 0, impl.Reply{Seq: 4, Code: impl.AskAgain})
	wantTakenFrom(t, "its turn has come", next, 2, impl.Reply{Seq: 5, Code: impl.AskOk})
	for _, k := range []int{math.MinInt, -1, 5, 6, 64, math.MaxInt} {
		wantNoWindowStep(t, "a place that is not there", w, wiTake(k))
	}
	wantNoWindowStep(t, "nothing on the Way", plainWindow("a"), wiTake(0))
	for _, many := range []int{0, 18, 19} {
		w.Back = make([]impl.Reply, many)
		wantTakenFrom(t, "room for the reply", w, 0, impl.Reply{Seq: 4})
	}
}

// The number leaves the Way and the part is asked, though the reply has no room.
func TestTakeWithoutRoomBack(t *testing.T) {
	full := changedWindow(func(w *impl.Window) { w.Back = slices.Repeat([]impl.Reply{{Seq: 5, Code: 5}, {Seq: 1}}, 10) })
	for k, code := range []int{impl.AskOk, impl.AskAgain, impl.AskOk, impl.AskGap, impl.AskAgain} {
		wantTakenFrom(t, "no room for the reply", full, k, impl.Reply{Seq: full.Way[k], Code: code})
		got, ok := impl.StepWindow(full, wiTake(k))
		if !ok || len(got.Way) != 4 || !slices.Equal(got.Back, full.Back) || !slices.Equal(got.Told, full.Told) {
			t.Error("a reply comes, or another thing changes", k, got, ok)
		}
	}
	stored := windowAfter(full, wiTake(0))
	wantTakenFrom(t, "the next one too", stored, 2, impl.Reply{Seq: 5})
	wantTakenFrom(t, "once more", stored, 1, impl.Reply{Seq: 4, Code: impl.AskAgain})
	wantTakenFrom(t, "one reply was dropped", windowAfter(stored, wiDrop(19)), 1, impl.Reply{Seq: 4, Code: impl.AskAgain})
	full.Part = withSixty(full.Texts, 4, 0)
	wantTakenFrom(t, "no room in the part, either", full, 0, impl.Reply{Seq: 4, Code: impl.AskFull})
	full.Way = make([]int, 20)
	wantTakenFrom(t, "all is full", full, 19, impl.Reply{Seq: 0, Code: impl.AskAgain})
	for _, k := range []int{math.MinInt, -1, 20, math.MaxInt} {
		wantNoWindowStep(t, "a place that is not there", full, wiTake(k))
	}
}

// Of a text that has left the part's window the part tells no more than that it is old.
func TestTakeWhatIsOld(t *testing.T) {
	l := texts(12, 2)
	told := slices.Repeat([]bool{true}, 12)
	for stored := 1; stored <= 12; stored++ {
		w := impl.Window{Texts: l, Sent: 12, Told: told, Way: steps(12, 0, 1), Part: storedAlone(l, 12)}
		w.Sent, w.Told, w.Way, w.Part = stored, slices.Concat(told[:stored], make([]bool, 12-stored)), w.Way[:stored], storedAlone(l, stored)
		for k := range stored {
			code := impl.AskAgain
			if k < stored-5 {
				code = impl.AskOld
			}
			wantTakenFrom(t, fmt.Sprint(k, " of ", stored), w, k, impl.Reply{Seq: k, Code: code})
		}
	}
}

func TestTakeWithoutRoomInThePart(t *testing.T) {
	full := changedWindow(func(w *impl.Window) { w.Part = withSixty(w.Texts, 4, 0) })
	for k, code := range []int{impl.AskFull, impl.AskAgain, impl.AskFull, impl.AskGap, impl.AskAgain} {
		wantTakenFrom(t, "sixty batches", full, k, impl.Reply{Seq: full.Way[k], Code: code})
	}
	last := changedWindow(func(w *impl.Window) { w.Part = withSixty(w.Texts, 4, 1) })
	wantTakenFrom(t, "fifty-nine", last, 0, impl.Reply{Seq: 4})
	wantTakenFrom(t, "sixty by now", windowAfter(last, wiTake(0)), 2, impl.Reply{Seq: 5, Code: impl.AskFull})
	others := changedWindow(func(w *impl.Window) { *w = withoutRoom(*w) })
	wantTakenFrom(t, "four others", others, 0, impl.Reply{Seq: 0, Code: impl.AskFull})
	wantTakenFrom(t, "four others, ahead of its turn", others, 1, impl.Reply{Seq: 4, Code: impl.AskGap})
}

func TestWindowLose(t *testing.T) {
	w := underWay()
	for k := range 5 {
		wantWindowChanged(t, "it leaves", w, wiLose(k), func(w *impl.Window) { w.Way = slices.Delete(w.Way, k, k+1) })
	}
	for _, k := range []int{math.MinInt, -1, 5, 6, 64, math.MaxInt} {
		wantNoWindowStep(t, "a place that is not there", w, wiLose(k))
	}
	wantNoWindowStep(t, "nothing on the Way", plainWindow("a"), wiLose(0))
	wantWindowChanged(t, "the only one", windowAfter(plainWindow("a"), wiSend()), wiLose(0), func(w *impl.Window) { w.Way = nil })
	w.Way, w.Back = make([]int, 20), make([]impl.Reply, 20)
	wantWindowChanged(t, "all is full", w, wiLose(19), func(w *impl.Window) { w.Way = w.Way[:19] })
}

func TestWindowTwice(t *testing.T) {
	w := underWay()
	for k, n := range []int{4, 1, 4, 5, 0} {
		wantWindowChanged(t, "behind all", w, wiTwice(k), func(w *impl.Window) { w.Way = append(w.Way, n) })
	}
	for _, k := range []int{math.MinInt, -1, 5, 6, 64, math.MaxInt} {
		wantNoWindowStep(t, "a place that is not there", w, wiTwice(k))
	}
	wantNoWindowStep(t, "nothing on the Way", plainWindow("a"), wiTwice(0))
	w.Way = append(make([]int, 18), 5)
	wantWindowChanged(t, "room for one", w, wiTwice(18), func(w *impl.Window) { w.Way = append(w.Way, 5) })
	w.Way = append(w.Way, 5)
	for k := range 20 {
		wantNoWindowStep(t, "no room", w, wiTwice(k))
	}
}

func TestWindowAnswer(t *testing.T) {
	w := underWay()
	for k, told := range []int{1, 3, -1, 0} {
		wantWindowChanged(t, "it leaves, and comes", w, wiAnswer(k), func(w *impl.Window) {
			w.Back = slices.Delete(w.Back, k, k+1)
			if told >= 0 {
				w.Told[told] = true
			}
		})
	}
	for _, k := range []int{math.MinInt, -1, 4, 5, 64, math.MaxInt} {
		wantNoWindowStep(t, "a place that is not there", w, wiAnswer(k))
	}
	wantNoWindowStep(t, "nothing Back", plainWindow("a"), wiAnswer(0))
	for code := range 6 {
		for seq := range 6 {
			r := impl.Reply{Seq: seq, Code: code}
			w.Back = []impl.Reply{{Seq: 5, Code: 5}, r}
			stored := code <= impl.AskOld
			if stored && seq > 3 {
				wantNoWindowStep(t, "of what is not stored", w, wiAnswer(1))
				continue
			}
			wantWindowChanged(t, fmt.Sprint("a reply ", r), w, wiAnswer(1), func(w *impl.Window) {
				w.Back = w.Back[:1]
				w.Told[seq] = w.Told[seq] || stored
			})
		}
	}
}

func TestWindowDrop(t *testing.T) {
	w := underWay()
	for k := range 4 {
		wantWindowChanged(t, "it leaves", w, wiDrop(k), func(w *impl.Window) { w.Back = slices.Delete(w.Back, k, k+1) })
	}
	for _, k := range []int{math.MinInt, -1, 4, 5, 64, math.MaxInt} {
		wantNoWindowStep(t, "a place that is not there", w, wiDrop(k))
	}
	wantNoWindowStep(t, "nothing Back", plainWindow("a"), wiDrop(0))
	w.Back = []impl.Reply{{Seq: 5}}
	wantWindowChanged(t, "of what is not stored", w, wiDrop(0), func(w *impl.Window) { w.Back = nil })
	w.Way, w.Back = make([]int, 20), make([]impl.Reply, 20)
	wantWindowChanged(t, "all is full", w, wiDrop(19), func(w *impl.Window) { w.Back = w.Back[:19] })
}

func TestWindowStepsOfNoKind(t *testing.T) {
	for why, w := range someWindows() {
		for _, kind := range []int{math.MinInt, -7, -1, 0, 8, 9, 64, math.MaxInt} {
			for _, k := range []int{-1, 0, 1, 3, 5} {
				wantNoWindowStep(t, why, w, impl.WinStep{Kind: kind, K: k})
			}
		}
	}
}

// A text of no byte goes its way as all others do.
func TestATextOfNoByte(t *testing.T) {
	w, did, ok := impl.PlayWindow([]string{""}, []impl.WinStep{wiSend(), wiTake(0), wiAnswer(0)})
	if !ok || slices.Contains(did, false) || !slices.Equal(w.Told, []bool{true}) {
		t.Error(w, did, ok)
	}
	if l, ok := impl.StoredIn(w); !ok || !slices.Equal(l, []string{""}) {
		t.Error(l, ok)
	}
}

func TestWindowInFlight(t *testing.T) {
	for why, want := range map[string][]int{
		"nothing at all": nil, "no text": nil, "one text": nil, "twelve texts": nil, "five sent": {0, 1, 2, 3, 4}, "one taken": {0}, "one Told": nil,
		"under way": {1, 3, 4, 5}, "five in flight": {1, 3, 4, 5, 6}, "none Told, five in flight": {0, 1, 2, 3, 4}, "all Told, on ways": nil,
		"as many sent as texts": {3, 4, 5, 6, 7}, "nothing on the Way": {1, 3, 4, 5}, "all that is stored Told": {4, 5},
	} {
		if l, ok := impl.InFlight(someWindows()[why]); !ok || !slices.Equal(l, want) {
			t.Error(why, l, ok)
		}
	}
}

func TestWindowStoredIn(t *testing.T) {
	l := windowTexts()
	for why, want := range map[string][]string{
		"nothing at all": nil, "no text": nil, "no batch at all": nil, "five sent": nil, "four other producers": nil, "nothing Told nor stored": nil,
		"one taken": {"a"}, "under way": l[:4], "others have more in a batch": l[:4], "sixty batches": l[:4], "all Told": texts(12, 20),
		"stored are just those Told": l[:3],
	} {
		if got, ok := impl.StoredIn(someWindows()[why]); !ok || !slices.Equal(got, want) {
			t.Error(why, got, ok)
		}
	}
}

// wantAllThere asks of FinishWindow that all is sent, Told and stored, and nothing in
// between any more.
func wantAllThere(t *testing.T, why string, w impl.Window, many int) {
	t.Helper()
	got, n, ok := impl.FinishWindow(w)
	if !ok || n != many || !slices.Equal(got.Texts, w.Texts) || got.Sent != len(w.Texts) || slices.Contains(got.Told, false) || len(got.Told) != len(w.Texts) {
		t.Error(why, got, n, ok)
	}
	if len(got.Way) != 0 || len(got.Back) != 0 || !slices.Equal(plainTextsIn(got.Part), w.Texts) || !impl.GoodWindow(got) {
		t.Error(why, "not all is there, or something is on a way", got)
	}
	if many := len(w.Part.Log); !sameLog(got.Part.Log[:many], w.Part.Log) {
		t.Error(why, "what was in the part is another thing now", got)
	}
	wantFinished(t, why, w)
	if again, n, ok := impl.FinishWindow(got); !ok || n != 0 || !sameWindow(again, got) {
		t.Error(why, "once more", again, n, ok)
	}
}

func TestFinishWindow(t *testing.T) {
	all := someWindows()
	for why, many := range map[string]int{
		"nothing at all": 0, "no text": 0, "all Told": 0, "all Told, on ways": 0,
		"one text": 1, "twelve texts": 12, "five sent": 12, "no batch at all": 12, "one taken": 1, "one Told": 1,
		"under way": 6, "as many sent as texts": 5, "nothing Told nor stored": 8, "all that is stored Told": 4, "twenty on both": 6,
		"stored are just those Told": 5, "others have more in a batch": 6, "just batches enough": 6,
	} {
		if _, there := all[why]; !there {
			t.Fatal(why)
		}
		wantAllThere(t, why, all[why], many)
	}
	w := underWay()
	w.Told = []bool{false, false, true, true, false, false, false, false}
	w.Sent, w.Way = 6, []int{0}
	wantNoWindowStep(t, "six are not good", windowAfter(w, wiSend()), wiSend())
	wantAllThere(t, "texts ahead Told, others not", w, 6)
}

func TestFinishWindowWithoutRoom(t *testing.T) {
	all := someWindows()
	for _, why := range []string{"four other producers", "sixty batches", "fifty-nine batches", "one batch too few"} {
		if _, there := all[why]; !there {
			t.Fatal(why)
		}
		if got, many, ok := impl.FinishWindow(all[why]); ok || many != 0 || !sameWindow(got, impl.Window{}) {
			t.Error(why, got, many, ok)
		}
	}
	full := all["sixty batches"]
	full.Texts, full.Told = full.Texts[:4], full.Told[:4]
	full.Sent, full.Way, full.Back = 4, []int{3}, nil
	wantAllThere(t, "sixty batches, but all is stored", full, 2)
	three := all["four other producers"]
	three.Part = partOf(ask(0, 0, 0, 1), ask(8, 0, 0, 1), ask(9, 0, 0, 1))
	wantAllThere(t, "three others", three, 8)
	none := all["four other producers"]
	none.Texts, none.Told, none.Sent, none.Way, none.Back = nil, nil, 0, nil, nil
	wantAllThere(t, "four others, but no text", none, 0)
}

func TestPlayWindow(t *testing.T) {
	l := []impl.WinStep{
		wiTake(0), wiSend(), wiSend(), wiAgain(2), wiSend(), wiTake(1), wiTwice(0), wiTake(0), {}, wiAnswer(0),
		wiAnswer(0), wiAgain(0), wiAgain(1), wiSend(), wiLose(0), wiTake(0), wiTake(0), {Kind: 8}, wiDrop(0), wiAnswer(1), wiAnswer(0)}
	want := impl.Window{
		Texts: []string{"a", "b", "c"},
		Sent:  3,
		Told:  []bool{true, true, false},
		Part:  storedAlone([]string{"a", "b", "c"}, 2),
	}
	done := []bool{false, true, true, false, true, true, true, true, false, true,
		true, false, true, false, true, true, true, false, true, false, true}
	w, did, ok := impl.PlayWindow([]string{"a", "b", "c"}, l)
	if !ok || !sameWindow(w, want) || !slices.Equal(did, done) {
		t.Error(w, did, ok)
	}
	wantWindowPlay(t, "steps among others", []string{"a", "b", "c"}, l)
}

func TestPlayWindowOfAtMostSoManySteps(t *testing.T) {
	l := append([]impl.WinStep{wiSend()}, slices.Repeat([]impl.WinStep{wiTwice(0), wiLose(1)}, 41)...)
	for _, many := range []int{0, 1, 2, 79, 80} {
		w, did, ok := impl.PlayWindow([]string{"a", "b"}, l[:many])
		if !ok || len(did) != many || slices.Contains(did, false) || w.Sent != min(1, many) {
			t.Error(many, w, did, ok)
		}
		wantWindowPlay(t, "steps", []string{"a", "b"}, l[:many])
	}
	for _, l := range [][]impl.WinStep{l[:81], l[:82], make([]impl.WinStep, 81)} {
		if w, did, ok := impl.PlayWindow([]string{"a"}, l); ok || len(did) != 0 || !sameWindow(w, impl.Window{}) {
			t.Error("one more", w, did, ok)
		}
	}
	w, did, ok := impl.PlayWindow([]string{"a"}, make([]impl.WinStep, 80))
	if !ok || !slices.Equal(did, make([]bool, 80)) || !sameWindow(w, plainWindow("a")) {
		t.Error("none is done", w, did, ok)
	}
}

func TestRandomWindowsAndSteps(t *testing.T) {
	r := newRandom()
	for range 300 {
		wantWindowSteps(t, "random", randomWindow(r))
	}
}

func TestAnyGoodWindowsAndSteps(t *testing.T) {
	r := newRandom()
	full := 0
	for range 250 {
		w := anyWindow(r)
		if !impl.GoodWindow(w) {
			t.Fatal(w)
		}
		wantWindowSteps(t, "any", w)
		if _, _, ok := impl.FinishWindow(w); !ok {
			full++
		}
	}
	if full < 20 || full > 200 {
		t.Error("one kind of windows alone", full)
	}
}

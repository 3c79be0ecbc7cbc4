package tests

import (
	"fmt"
	"math/rand/v2"
	"regexp"
	"strconv"
	"strings"

	"loop.example/g00361/impl"
)

// What chapter 18 says, written once more in the plainest way: each kind of line by a
// pattern of its own, done by the plain tellings of the chapters that it names.

type plainBroker struct {
	part    impl.Part
	store   plainStore
	group   impl.Group
	readers impl.Readers
}

func newPlainBroker() *plainBroker {
	part, _ := plainRebuilt([]impl.Batch{{Records: []string{""}}})
	return &plainBroker{part: part, store: laid(0, nil, 0), group: plainIsr(3), readers: plainReaders(2, 5, 3)}
}

func (b *plainBroker) ask(n []int, text string) string {
	p, code, offset, ok := plainAsked(b.part, impl.Ask{Id: n[0], Epoch: n[1], Seq: n[2], Records: []string{text}})
	if !ok {
		return "no"
	}
	b.part = p
	return []string{fmt.Sprint("ok ", offset), fmt.Sprint("again ", offset), "old", "gap", "fenced", "full"}[code]
}

func (b *plainBroker) write(n []int, text string) string {
	x := impl.Batch{Offset: b.store.made().Next, Epoch: n[0], Records: []string{text}}
	if !plainGood(x) {
		return "no"
	}
	if _, ok := readStore(b.store.with(x).made()); !ok {
		return "no"
	}
	b.store = b.store.with(x)
	return fmt.Sprint("at ", b.store.made().Next)
}

func (b *plainBroker) find(n []int, _ string) string {
	if !b.store.has(n[0]) {
		return "no"
	}
	x := b.store.from(n[0], 1)[0]
	return fmt.Sprint("batch ", x.Offset, " ") + x.Records[0]
}

func (b *plainBroker) cut(n []int, _ string) string {
	if n[0] > b.store.made().Next {
		return "no"
	}
	b.store = b.store.cut(n[0])
	return fmt.Sprint("next ", b.store.made().Next)
}

func (b *plainBroker) grouped(x impl.IsrStep) string {
	next, ok := plainIsrStep(b.group, x)
	if !ok {
		return "no"
	}
	b.group = next
	return "ok"
}

func (b *plainBroker) read(x impl.GroupStep) string {
	next, ok := plainReadersStep(b.readers, x)
	if !ok {
		return "no"
	}
	b.readers = next
	return "ok"
}

type plainForm struct {
	pattern string
	answer  func(b *plainBroker, n []int, text string) string
}

// In a pattern N stands for a number and T for a text.
func plainForms() []plainForm {
	type broker = *plainBroker
	return []plainForm{
		{"ask N N N T", broker.ask},
		{"write N T", broker.write},
		{"find N", broker.find},
		{"cut N", broker.cut},
		{"elect N", func(b broker, n []int, _ string) string { return b.grouped(isElect(n[0])) }},
		{"append N", func(b broker, n []int, _ string) string { return b.grouped(isAppend(n[0])) }},
		{"fetch N N", func(b broker, n []int, _ string) string { return b.grouped(isFetch(n[0], n[1])) }},
		{"shrink N", func(b broker, n []int, _ string) string { return b.grouped(isShrink(n[0])) }},
		{"expand N", func(b broker, n []int, _ string) string { return b.grouped(isExpand(n[0])) }},
		{"raise", func(b broker, n []int, _ string) string { return b.grouped(isRaise()) }},
		{"high", func(b broker, _ []int, _ string) string {
			return fmt.Sprint("high ", b.group.High, " ", b.group.Leader)
		}},
		{"join N", func(b broker, n []int, _ string) string { return b.read(gsJoin(n[0])) }},
		{"leave N", func(b broker, n []int, _ string) string { return b.read(gsLeave(n[0])) }},
		{"sync N", func(b broker, n []int, _ string) string { return b.read(gsSync(n[0])) }},
		{"read N N N", func(b broker, n []int, _ string) string { return b.read(gsRead(n[0], n[1], n[2])) }},
		{"commit N N", func(b broker, n []int, _ string) string { return b.read(gsCommit(n[0], n[1])) }},
		{"left", func(b broker, _ []int, _ string) string {
			left, _ := plainLeft(b.readers)
			return fmt.Sprint("left ", left)
		}},
	}
}

// plainLine is a form that is made ready to be held against lines.
type plainLine struct {
	plainForm
	is *regexp.Regexp
}

var plainLines = func() []plainLine {
	var l []plainLine
	for _, f := range plainForms() {
		p := strings.ReplaceAll(f.pattern, "N", "(0|[1-9][0-9]{0,5})")
		l = append(l, plainLine{f, regexp.MustCompile("^(?s:" + strings.ReplaceAll(p, "T", "([^ ]*)") + ")$")})
	}
	return l
}()

func (b *plainBroker) line(line string) string {
	for _, f := range plainLines {
		got := f.is.FindStringSubmatch(line)
		if got == nil {
			continue
		}
		var n []int
		for _, word := range got[1:] {
			number, _ := strconv.Atoi(word)
			n = append(n, number)
		}
		return f.answer(b, n, got[len(got)-1])
	}
	return "what"
}

func plainScript(text string) ([]string, bool) {
	if len(text) > 2500 {
		return nil, false
	}
	var lines []string
	for text != "" {
		line, rest, ends := strings.Cut(text, "\n")
		if !ends {
			return nil, false
		}
		lines, text = append(lines, line), rest
	}
	return lines, len(lines) <= 80
}

func plainRun(text string) (string, *plainBroker, bool) {
	lines, ok := plainScript(text)
	if !ok {
		return "", nil, false
	}
	b, out := newPlainBroker(), ""
	for _, line := range lines {
		out += b.line(line) + "\n"
	}
	return out, b, true
}

// script is that of such lines.
func script(lines ...string) string {
	text := ""
	for _, line := range lines {
		text += line + "\n"
	}
	return text
}

// wordsFor are the words that stand in for a form's numbers and text.
func wordsFor(f plainForm, number func() string, text func() string) string {
	words := strings.Fields(f.pattern)
	for i, word := range words {
		switch word {
		case "N":
			words[i] = number()
		case "T":
			words[i] = text()
		}
	}
	return strings.Join(words, " ")
}

// fewNumber is one that mostly leads on.
func fewNumber(r *rand.Rand) string {
	return strconv.Itoa([]int{0, 0, 0, 1, 1, 1, 2, 2, 3, 4, 5, 9, 30, 99, 100, 1000, 65535, 999999}[r.IntN(18)])
}

// lineText is one that may be a T, or is too long to be good.
func lineText(r *rand.Rand) string {
	s := strings.Map(func(c rune) rune {
		if c == ' ' || c == '\n' {
			return -1
		}
		return c
	}, randomText(r, 22))
	if r.IntN(4) == 0 {
		return ""
	}
	return s
}

// askLine is one of a producer that asks on, again, or amiss.
func askLine(r *rand.Rand, now *plainBroker) string {
	id := []int{0, 1, 2, 3, 4, 4, 4, 4, 4, 4}[r.IntN(10)]
	epoch, seq := r.IntN(2), 0
	if own := batchesOf(now.part.Log, id); len(own) > 0 {
		last := own[len(own)-1]
		epoch, seq = last.Epoch, last.Seq+1-[]int{0, 0, 0, 0, 0, 1, 3, 6, 8, -1}[r.IntN(10)]
		if r.IntN(8) == 0 {
			epoch, seq = max(0, last.Epoch-1+r.IntN(3)), 0
		}
	}
	return fmt.Sprint("ask ", id, " ", epoch, " ", max(0, seq), " ") + lineText(r)
}

func writeLine(r *rand.Rand, now *plainBroker) string {
	epoch := 0
	if all := now.store.all(); len(all) > 0 {
		epoch = max(0, all[len(all)-1].Epoch+[]int{0, 0, 0, 0, 1, -1}[r.IntN(6)])
	}
	return fmt.Sprint("write ", epoch, " ") + lineText(r)
}

func isrLine(x impl.IsrStep) string {
	switch x.Kind {
	case impl.IsElect:
		return fmt.Sprint("elect ", x.K)
	case impl.IsAppend:
		return fmt.Sprint("append ", x.N)
	case impl.IsFetch:
		return fmt.Sprint("fetch ", x.K, " ", x.N)
	case impl.IsShrink:
		return fmt.Sprint("shrink ", x.K)
	case impl.IsExpand:
		return fmt.Sprint("expand ", x.K)
	}
	return "raise"
}

func readersLine(x impl.GroupStep) string {
	switch x.Kind {
	case impl.GsJoin:
		return fmt.Sprint("join ", x.K)
	case impl.GsLeave:
		return fmt.Sprint("leave ", x.K)
	case impl.GsSync:
		return fmt.Sprint("sync ", x.K)
	case impl.GsRead:
		return fmt.Sprint("read ", x.K, " ", x.Part, " ", x.N)
	}
	return fmt.Sprint("commit ", x.K, " ", x.Part)
}

// randomLine is one of such a kind, of twelve, that mostly can be done.
func randomLine(r *rand.Rand, now *plainBroker, kind int) string {
	switch kind {
	case 0, 1:
		return askLine(r, now)
	case 2, 3:
		return writeLine(r, now)
	case 4:
		next := now.store.made().Next
		return fmt.Sprint([]string{"find ", "find ", "cut "}[r.IntN(3)], r.IntN(next+2))
	case 5, 6, 7:
		return isrLine(randomIsrStep(r, now.group))
	case 8, 9:
		return readersLine(randomReadersStep(r, now.readers))
	case 10:
		return []string{"high", "left"}[r.IntN(2)]
	}
	return oddLine(r)
}

// oddLine has numbers at random, and may be a little amiss.
func oddLine(r *rand.Rand) string {
	forms := plainForms()
	line := wordsFor(forms[r.IntN(len(forms))], func() string { return fewNumber(r) }, func() string { return lineText(r) })
	at := r.IntN(len(line) + 1)
	switch r.IntN(8) {
	case 0:
		return line[:at]
	case 1:
		return line[:at] + " " + line[at:]
	case 2:
		return line[:at] + "0" + line[at:]
	case 3:
		return strings.ReplaceAll(line[:at]+randomText(r, 3)+line[at:], "\n", "")
	}
	return line
}

// randomLines are such lines, each for where those ahead of it lead, many of one kind.
func randomLines(r *rand.Rand, many int) []string {
	now, most := newPlainBroker(), r.IntN(12)
	var lines []string
	bytes := 0
	for range many {
		kind := r.IntN(12)
		if r.IntN(3) > 0 {
			kind = most
		}
		line := randomLine(r, now, kind)
		if bytes += len(line) + 1; bytes > 2500 {
			break
		}
		now.line(line)
		lines = append(lines, line)
	}
	return lines
}

package tests

import (
	"math/rand/v2"
	"strconv"
	"strings"
	"testing"
	"unsafe"

	"loop.example/g00361/impl"
)

// Promise 19 for chapter 18: answers at any texts, nothing written into a text, no memory
// shared.

func TestAnyScriptIsAnswered(t *testing.T) {
	for a := range 256 {
		wantScript(t, "a byte", string([]byte{byte(a)}))
		wantScript(t, "a byte in a line", string([]byte{byte(a), '\n'}))
		wantScript(t, "a byte behind a line", string([]byte{'\n', byte(a)}))
		for _, b := range []byte{0, '\n', '\r', ' ', '0', 'a', 127, 128, 0xc3, 0xff} {
			wantScript(t, "two bytes", string([]byte{byte(a), b}))
			wantScript(t, "two bytes in a line", string([]byte{byte(a), b, '\n'}))
		}
	}
	r := newRandom()
	for range 2000 {
		wantScript(t, "any bytes", randomText(r, 60)+"\n")
		wantScript(t, "any bytes", randomText(r, 2600))
	}
}

// fewBytes are those that lines are made of, and some others.
const fewBytes = "  \n\n0011259aehklrstw\x00\xff"

func TestTextsOfFewBytesAreAnswered(t *testing.T) {
	r := newRandom()
	for range 2000 {
		text := make([]byte, r.IntN(120))
		for i := range text {
			text[i] = fewBytes[r.IntN(len(fewBytes))]
		}
		wantScript(t, "few bytes", string(text)+"\n")
	}
}

// anyWords are lines of words that lines have, in any order.
func anyWords(r *rand.Rand) string {
	var line []string
	for range 1 + r.IntN(5) {
		forms := plainForms()
		name, _, _ := strings.Cut(forms[r.IntN(len(forms))].pattern, " ")
		line = append(line, []string{name, fewNumber(r), fewNumber(r), "", "01", "-1", "ok"}[r.IntN(7)])
	}
	return strings.Join(line, " ")
}

func TestAnyWordsAreAnswered(t *testing.T) {
	r := newRandom()
	for range 1500 {
		lines := randomLines(r, 1+r.IntN(20))
		for range 20 {
			lines = append(lines, anyWords(r))
		}
		wantScript(t, "any words", script(lines...))
	}
}

func TestAnyNumbersInLinesAreAnswered(t *testing.T) {
	for _, n := range append(oddNumbers(), 7, 8, 30, 31, 99, 100, 101, 1000, 1001, 65535, 65536, 100000, 100001, 999999, 1000000) {
		eachNumber(t, strconv.Itoa(n), func(line string) {
			wantScript(t, "a number", script(line))
			wantScript(t, "a number behind others", script("write 0 a", "ask 4 0 0 a", "append 7", "fetch 1 1", "join 0", "sync 0", "read 0 0 1", line, "high", "left", line))
		})
	}
}

// nearText changes a text a little at some place.
func nearText(r *rand.Rand, text string) string {
	at := r.IntN(len(text) + 1)
	behind := min(len(text), at+1+r.IntN(3))
	switch r.IntN(5) {
	case 0:
		return text[:at] + text[behind:]
	case 1:
		return text[:at] + []string{" ", "\n", "0", "1", "\xff"}[r.IntN(5)] + text[at:]
	case 2:
		return text[:at] + text[at:behind] + text[at:]
	case 3:
		if at < len(text) {
			return turned(text, at, 1<<r.IntN(8))
		}
	}
	return text[:at]
}

func TestTextsNearToScriptsAreAnswered(t *testing.T) {
	r := newRandom()
	none := 0
	for range 1500 {
		text := nearText(r, script(randomLines(r, r.IntN(81))...))
		wantScript(t, "near", text)
		if _, _, ok := impl.BrokerOf(text); !ok {
			none++
		}
	}
	if none < 100 || none > 1400 {
		t.Error("too few are scripts, or too many", none)
	}
}

func TestGreatTextsAreAnswered(t *testing.T) {
	for why, text := range map[string]string{
		"one line":       strings.Repeat("x", 1<<20) + "\n",
		"no line":        strings.Repeat("x", 1<<20),
		"empty lines":    strings.Repeat("\n", 1<<20),
		"blanks":         strings.Repeat(" ", 1<<20) + "\n",
		"lines":          strings.Repeat("write 0 a\n", 1<<16),
		"a great number": "find " + strings.Repeat("1", 1<<20) + "\n",
	} {
		wantNoScript(t, why, text)
	}
	for why, line := range map[string]string{
		"a number":      "find " + strings.Repeat("1", 2494),
		"noughts":       "find " + strings.Repeat("0", 2494),
		"blanks":        strings.Repeat(" ", 2499),
		"words":         strings.Repeat("1 ", 1249),
		"bytes of 255":  strings.Repeat("\xff", 2499),
		"a great text":  "write 0 " + strings.Repeat("x", 2491),
		"a great T":     "ask 4 0 0 " + strings.Repeat("x", 2489),
		"runes":         "find " + strings.Repeat("\u0661", 1247),
		"broken runes":  "find " + strings.Repeat("\xe2\x82", 1247),
		"great letters": strings.Repeat("HIGH", 624),
	} {
		answer := "what"
		if strings.HasPrefix(line, "write") || strings.HasPrefix(line, "ask") {
			answer = "no"
		}
		wantLines(t, why, line, answer)
	}
}

// pieceOf is a text that is a piece of memory that may be looked at and written into.
func pieceOf(memory []byte, from, to int) string {
	return unsafe.String(unsafe.SliceData(memory[from:]), to-from)
}

// What lies on both sides of a text in its memory would make other lines of it.
func TestTextsStayAsTheyAre(t *testing.T) {
	r := newRandom()
	for range 300 {
		text := script(randomLines(r, 1+r.IntN(80))...)
		for _, cut := range []int{0, 1, r.IntN(len(text))} {
			memory := []byte("ask 4 0 0 x\nwrite 0" + text + "0\nhigh\n")
			before := string(memory)
			from, to := len("ask 4 0 0 x\nwrite 0"), len("ask 4 0 0 x\nwrite 0")+len(text)-cut
			piece := pieceOf(memory, from, to)
			wantScript(t, "a piece", piece)
			if got, want := impl.RunBroker(piece), impl.RunBroker(strings.Clone(piece)); got != want {
				t.Errorf("what is beside the text is read: %q: %q, not %q", piece, got, want)
			}
			if string(memory) != before {
				t.Errorf("written into the text: %q", before)
			}
		}
	}
}

// wantOwnBroker asks that nothing that is answered is of a text's memory, nor of what was
// answered before.
func wantOwnBroker(t *testing.T, why, text string, s impl.Store, g impl.Group, others ...impl.Store) {
	t.Helper()
	wantNewStore(t, why, impl.Store{}, s)
	wantOwnIsr(t, why, impl.Group{}, g)
	for _, segment := range s.Segments {
		if stringsShare(segment.Bytes, text) {
			t.Errorf("%s: the store shares the text: %q", why, text)
		}
	}
	for _, other := range others {
		wantNewStore(t, why, other, s)
	}
}

func TestScriptsShareNoMemory(t *testing.T) {
	r := newRandom()
	for range 300 {
		text := script(randomLines(r, r.IntN(81))...)
		out, again := impl.RunBroker(text), impl.RunBroker(text)
		if stringsShare(out, text) || stringsShare(again, text) || stringsShare(out, again) {
			t.Errorf("what is answered is shared: %q", text)
		}
		s, g, _ := impl.BrokerOf(text)
		s1, g1, _ := impl.BrokerOf(text)
		wantOwnBroker(t, "once", text, s, g)
		wantOwnBroker(t, "once more", text, s1, g1, s)
		wantOwnIsr(t, "twice", g, g1)
	}
	for _, text := range []string{"", "\n", "high\n", "write 0 a\n", "find 0\n", "write 0 \nfind 0\n"} {
		s, g, _ := impl.BrokerOf(text)
		s1, g1, _ := impl.BrokerOf(text)
		wantOwnBroker(t, text, text, s1, g1, s)
		wantOwnIsr(t, text, g, g1)
		if stringsShare(impl.RunBroker(text), text) || stringsShare(impl.RunBroker(text), impl.RunBroker(text)) {
			t.Errorf("what is answered is shared: %q", text)
		}
	}
}

// What is done to an answer, up to the end of its memory, is not seen in the text, nor in
// what is answered next.
func TestAnsweredBrokersMayBeWrittenInto(t *testing.T) {
	r := newRandom()
	for range 200 {
		text := script(randomLines(r, r.IntN(81))...)
		before := strings.Clone(text)
		for range 2 {
			s, g, _ := impl.BrokerOf(text)
			spoilIsr(g)
			for _, segment := range s.Segments {
				spoilList(segment.Index, impl.Mark{Offset: -9, At: -9})
			}
			spoilList(s.Segments, impl.Segment{Base: -9, Bytes: "spoilt"})
			wantScript(t, "once more", text)
		}
		if text != before {
			t.Errorf("written into the text: %q", before)
		}
	}
}

// Nothing is kept from script to script, be it of one that is none.
func TestScriptsAreEachForThemselves(t *testing.T) {
	r := newRandom()
	var scripts, answers []string
	for range 60 {
		text := script(randomLines(r, r.IntN(81))...)
		scripts, answers = append(scripts, text), append(answers, impl.RunBroker(text))
	}
	for range 600 {
		i := r.IntN(len(scripts))
		if r.IntN(3) == 0 {
			wantNoScript(t, "none between", scripts[i]+"x")
		}
		if got := impl.RunBroker(scripts[i]); got != answers[i] {
			t.Errorf("%q: %q, not %q", scripts[i], got, answers[i])
		}
	}
}

func TestWhatIsNoScriptHandsOutNothing(t *testing.T) {
	for _, text := range []string{"x", "high", "high\nx", "write 0 a\nwrite 0 b", strings.Repeat("\n", 81), strings.Repeat("x", 2500) + "\n"} {
		out := impl.RunBroker(text)
		s, g, ok := impl.BrokerOf(text)
		if out != "" || ok || cap(s.Segments)+s.Next != 0 || g.Epoch+g.Leader+g.High+cap(g.InStep)+cap(g.Replicas) != 0 {
			t.Errorf("%q: %q %v %v %v", text, out, s, g, ok)
		}
	}
}

package tests

import (
	"fmt"
	"strings"
	"testing"

	"loop.example/g00361/impl"
)

// wantScript holds what a text is answered, and where it leads, against the plain telling.
func wantScript(t *testing.T, why, text string) {
	t.Helper()
	want, b, is := plainRun(text)
	if got := impl.RunBroker(text); got != want {
		t.Errorf("%s: %q: %q, not %q", why, text, got, want)
	}
	var store impl.Store
	var group impl.Group
	if is {
		store, group = b.store.made(), b.group
	}
	s, g, ok := impl.BrokerOf(text)
	if ok != is || !sameStore(s, store) || !sameIsr(g, group) {
		t.Errorf("%s: %q: %v %v %v, not %v %v", why, text, s, g, ok, store, group)
	}
	if ok && (!impl.GoodStore(s) || !impl.GoodGroup(g)) {
		t.Errorf("%s: %q: not good in the end: %v %v", why, text, s, g)
	}
}

// wantNoScript asks that a text is none.
func wantNoScript(t *testing.T, why, text string) {
	t.Helper()
	wantScript(t, why, text)
	if got := impl.RunBroker(text); got != "" {
		t.Errorf("%s: %q", why, got)
	}
	if s, g, ok := impl.BrokerOf(text); ok || !sameStore(s, impl.Store{}) || !sameIsr(g, impl.Group{}) {
		t.Errorf("%s: %v %v %v", why, s, g, ok)
	}
}

// wantLines asks of lines, one behind the other, the answer that each has behind it.
func wantLines(t *testing.T, why string, linesAndAnswers ...string) {
	t.Helper()
	text, want := "", ""
	for i := 0; i < len(linesAndAnswers); i += 2 {
		text += linesAndAnswers[i] + "\n"
		want += linesAndAnswers[i+1] + "\n"
	}
	if got := impl.RunBroker(text); got != want {
		t.Errorf("%s: %q: %q, not %q", why, text, got, want)
	}
	wantScript(t, why, text)
}

// timesOf is so many times the same.
func timesOf(many int, linesAndAnswers ...string) []string {
	var l []string
	for range many {
		l = append(l, linesAndAnswers...)
	}
	return l
}

func TestWhatIsAScript(t *testing.T) {
	if s, g, ok := impl.BrokerOf(""); !ok || !sameStore(s, impl.Store{Segments: []impl.Segment{{}}}) || !sameIsr(g, plainIsr(3)) {
		t.Error("no byte", s, g, ok)
	}
	wantLines(t, "no byte")
	wantLines(t, "one line", "high", "high 0 0")
	wantLines(t, "80 lines", timesOf(80, "high", "high 0 0")...)
	wantNoScript(t, "81 lines", strings.Repeat("high\n", 81))
	wantLines(t, "an empty line", "", "what")
	wantLines(t, "80 empty lines", timesOf(80, "", "what")...)
	wantNoScript(t, "81 empty lines", strings.Repeat("\n", 81))
	wantLines(t, "empty lines between", "", "what", "high", "high 0 0", "", "what", "", "what", "left", "left 8")
	wantLines(t, "2500 bytes in one line", strings.Repeat("x", 2499), "what")
	wantNoScript(t, "2501 bytes in one line", strings.Repeat("x", 2500)+"\n")
	full := timesOf(79, strings.Repeat("x", 30), "what")
	wantLines(t, "2500 bytes in 80 lines", append(full, strings.Repeat("x", 50), "what")...)
	wantNoScript(t, "2501 bytes in 80 lines", strings.Repeat(strings.Repeat("x", 30)+"\n", 79)+strings.Repeat("x", 51)+"\n")
	wantNoScript(t, "2500 bytes in 81 lines", strings.Repeat(strings.Repeat("x", 29)+"\n", 80)+strings.Repeat("x", 99)+"\n")
}

func TestEachLineHasAByteTenBehindIt(t *testing.T) {
	for _, text := range []string{"high", "x", " ", "high\nhigh", "high\nx", "\n\nx", "\n ", "high\n\r", "high\r", "write 0 a\nfind 0"} {
		wantNoScript(t, "the last line has none", text)
		wantScript(t, "the last line has one", text+"\n")
	}
	wantNoScript(t, "80 lines, and a byte", strings.Repeat("\n", 80)+"x")
	wantNoScript(t, "79 lines, and one without", strings.Repeat("high\n", 79)+"high")
	wantNoScript(t, "2500 bytes without", strings.Repeat("x", 2500))
	wantLines(t, "a byte 13 is of the word", "high\r", "what", "high", "high 0 0", "write 0 a\r", "at 1", "find 0", "batch 0 a\r")
}

// eachForm has a line of each kind that is one.
func eachForm(t *testing.T, look func(f plainForm, line string)) {
	t.Helper()
	for _, f := range plainForms() {
		line := wordsFor(f, func() string { return "0" }, func() string { return "x" })
		if got := impl.RunBroker(line + "\n"); got == "what\n" || got == "" {
			t.Errorf("%q: %q", line, got)
		}
		look(f, line)
	}
}

// wantWhat asks that lines are none of a kind, and leave all as it was.
func wantWhat(t *testing.T, why string, lines ...string) {
	t.Helper()
	for _, line := range lines {
		wantLines(t, why, line, "what")
		wantScript(t, why, script("write 3 a", "append 7", "fetch 1 9", "join 0", "ask 4 0 0 a", line, "high", "left", "find 0", "ask 4 0 0 b", "shrink 2", "raise", line, "high"))
	}
}

func TestWordsAreCutAtEachBlank(t *testing.T) {
	eachForm(t, func(f plainForm, line string) {
		wantWhat(t, "a blank ahead", " "+line, "  "+line)
		wantWhat(t, "a blank at the end", line+" ", line+"  ")
		for i := range line {
			if line[i] == ' ' {
				wantWhat(t, "two blanks between", line[:i]+" "+line[i:])
				wantWhat(t, "no blank between", line[:i]+line[i+1:])
				for _, other := range []string{"\t", "\r", "\x00", "\x0b", "\xa0", "\u00a0", "\u2003", ",", "_"} {
					wantWhat(t, "no blank, but another byte", line[:i]+other+line[i+1:])
				}
			}
		}
		for _, other := range []string{"\t", "\r", "\x00", "\x0b", "\xa0", "\u00a0", "\u2003"} {
			wantWhat(t, "no blank, but another byte ahead", other+line)
			if !strings.HasSuffix(f.pattern, "T") {
				wantWhat(t, "no blank, but another byte at the end", line+other)
			}
		}
	})
	wantWhat(t, "blanks alone", " ", "  ", "   ", "      ")
}

func TestAWordTooFewAndOneTooMany(t *testing.T) {
	eachForm(t, func(f plainForm, line string) {
		words := strings.Split(line, " ")
		for many := range len(words) {
			wantWhat(t, "too few", strings.Join(words[:many], " "))
		}
		for _, more := range []string{"0", "1", "x", "", line} {
			wantWhat(t, "one too many", line+" "+more)
		}
		for at := 1; at < len(words); at++ {
			wantWhat(t, "one left out", strings.Join(append(words[:at:at], words[at+1:]...), " "))
		}
	})
}

// eachNumber has a line for each number that a form has, with a word in its place.
func eachNumber(t *testing.T, word string, look func(line string)) {
	t.Helper()
	eachForm(t, func(f plainForm, line string) {
		words := strings.Split(line, " ")
		for i, is := range strings.Fields(f.pattern) {
			if is == "N" {
				look(strings.Join(append(append(words[:i:i], word), words[i+1:]...), " "))
			}
		}
	})
}

func TestNumbersOfLines(t *testing.T) {
	for _, word := range []string{"0", "1", "9", "10", "99", "100", "9999", "99999", "100000", "123456", "999999"} {
		eachNumber(t, word, func(line string) {
			if got := impl.RunBroker(line + "\n"); got == "what\n" || got == "" {
				t.Errorf("%q: %q", line, got)
			}
			wantScript(t, "a number", line+"\n")
		})
	}
	for _, word := range []string{
		"", "00", "01", "007", "000000", "0000001", "012345", "1000000", "0999999", "9999999", "18446744073709551616", "9223372036854775808",
		"-0", "-1", "+0", "+1", "1-", "1.", ".1", "1.0", "1e2", "0x1", "0b1", "0o7", "1_0", "1,0", "a", "a1", "1a", "1 ", "x",
		"\x00", "1\x00", "\x001", "\xff", "1\xff", "\xff1", "\xb1", "1\xb1", "\x80", "\u0661", "1\u0661", "\uff11", "\u00b2", "\u0130", "1\u0139", "\u0431", "\u4e31", "\U0001d7d9", "\ufffd", "\r", "1\r",
	} {
		eachNumber(t, word, func(line string) { wantWhat(t, "no number", line) })
	}
}

func TestEachByteIsADigitOrNone(t *testing.T) {
	for b := range 256 {
		if b == '\n' || b == ' ' {
			continue
		}
		c := string([]byte{byte(b)})
		digit := b >= '0' && b <= '9'
		for _, word := range []string{c, "1" + c, "12345" + c, c + "1", "1" + c + "1", "1" + c + "2345"} {
			answer := "what"
			if digit && (b != '0' || word[0] != '0' || word == "0") {
				answer = "no"
			}
			wantLines(t, "a byte", "find "+word, answer)
		}
	}
}

func TestWordsOfOtherLetters(t *testing.T) {
	eachForm(t, func(f plainForm, line string) {
		name, rest, blank := strings.Cut(line, " ")
		if blank {
			rest = " " + rest
		}
		wantWhat(t, "great letters", strings.ToUpper(name)+rest, strings.ToUpper(name[:1])+name[1:]+rest)
		for i := range name {
			wantWhat(t, "a byte above 127", turned(name, i, 128)+rest, name[:i]+"\xff"+name[i:]+rest)
			wantWhat(t, "another letter", turned(name, i, 1)+rest, turned(name, i, 32)+rest)
			wantWhat(t, "a letter less", name[:i]+name[i+1:]+rest)
			wantWhat(t, "a letter more", name[:i]+name[i:i+1]+name[i:]+rest)
		}
		wantWhat(t, "another letter at the end", name+"s"+rest, name+"\x00"+rest, name+"\u00e9"+rest)
	})
	wantWhat(t, "none of these", "fly", "what", "no", "ok", "at", "batch", "next", "take", "0", "1 2", "put 0 a", "drop 0", "ask", "ask 4", "leftover", "rise", "a\u00f6k 0 0 0 x")
}

func TestAskLines(t *testing.T) {
	wantLines(t, "the part has one batch, of the producer 0", "ask 0 0 0 x", "again 0", "ask 0 0 1 x", "ok 1", "ask 0 0 2 ", "ok 2", "ask 0 0 1 other", "again 1")
	wantLines(t, "one that is new", "ask 4 0 1 x", "gap", "ask 4 0 0 x", "ok 1", "ask 4 0 0 x", "again 1", "ask 4 0 2 x", "gap", "ask 4 0 1 x", "ok 2")
	wantLines(t, "an epoch above and below", "ask 4 1 0 x", "ok 1", "ask 4 0 0 x", "fenced", "ask 4 0 1 x", "fenced", "ask 4 2 1 x", "gap", "ask 4 2 0 x", "ok 2", "ask 4 1 1 x", "fenced")
	wantLines(t, "an empty text", "ask 4 0 0 ", "ok 1", "ask 4 0 0 ", "again 1", "ask 4 0 0 x", "again 1", "ask 4 0 0", "what")
	wantLines(t, "a text of any bytes", "ask 4 0 0 \x00\xff\x80\r\t", "ok 1", "ask 4 0 1 \u00f6", "ok 2", "ask 4 0 2 ask", "ok 3", "ask 4 0 3 0", "ok 4")
	wantLines(t, "a text of 20 bytes and one more", "ask 4 0 0 "+strings.Repeat("x", 20), "ok 1", "ask 4 0 1 "+strings.Repeat("x", 21), "no", "ask 4 0 0 "+strings.Repeat("x", 21), "no", "ask 4 0 1 "+strings.Repeat("\xff", 20), "ok 2")
	wantLines(t, "a text's bytes count, not its runes", "ask 4 0 0 "+strings.Repeat("\u00f6", 10), "ok 1", "ask 4 0 1 "+strings.Repeat("\u00f6", 11), "no")
	wantLines(t, "an Id of 65535 and one more", "ask 65535 0 0 x", "ok 1", "ask 65536 0 0 x", "no", "ask 999999 0 0 x", "no")
	wantLines(t, "an Epoch of 1000 and one more", "ask 4 1000 0 x", "ok 1", "ask 4 1001 0 x", "no", "ask 4 999999 0 x", "no", "ask 4 999 0 x", "fenced")
	wantLines(t, "a Seq of 65535 and one more", "ask 4 0 65535 x", "gap", "ask 4 0 65536 x", "no", "ask 0 0 65535 x", "gap", "ask 0 0 65536 x", "no")
}

func TestAsksThatAreOldOrFull(t *testing.T) {
	var l []string
	for seq := range 7 {
		l = append(l, fmt.Sprint("ask 4 0 ", seq, " x"), fmt.Sprint("ok ", seq+1))
	}
	l = append(l, "ask 4 0 0 x", "old", "ask 4 0 1 x", "old", "ask 4 0 2 x", "again 3", "ask 4 0 6 x", "again 7", "ask 4 0 7 x", "ok 8", "ask 4 0 2 x", "old")
	wantLines(t, "of the window's size", l...)
	wantLines(t, "a producer too many", "ask 1 0 0 x", "ok 1", "ask 2 0 0 x", "ok 2", "ask 3 0 0 x", "ok 3", "ask 4 0 0 x", "full", "ask 4 0 1 x", "gap", "ask 1 0 1 x", "ok 4", "ask 4 0 0 x", "full")
	l = nil
	for seq := range 59 {
		l = append(l, fmt.Sprint("ask 4 0 ", seq, " x"), fmt.Sprint("ok ", seq+1))
	}
	wantLines(t, "60 batches and one more", append(l, "ask 4 0 59 x", "full", "ask 4 0 58 x", "again 59", "ask 4 0 60 x", "gap", "ask 0 0 1 x", "full", "ask 4 1 0 x", "full", "ask 4 0 0 x", "old")...)
}

func TestWriteLines(t *testing.T) {
	wantLines(t, "one behind the other", "write 0 a", "at 1", "write 0 b", "at 2", "write 3 c", "at 3", "find 2", "batch 2 c")
	wantLines(t, "an Epoch that fell", "write 2 a", "at 1", "write 1 b", "no", "write 2 b", "at 2", "write 3 c", "at 3", "write 2 d", "no")
	wantLines(t, "an Epoch of 1000 and one more", "write 1001 a", "no", "write 1000 a", "at 1", "write 999 a", "no", "write 999999 a", "no")
	wantLines(t, "an empty text", "write 0 ", "at 1", "find 0", "batch 0 ", "write 0", "what", "write 0  ", "what")
	wantLines(t, "a text of 20 bytes and one more", "write 0 "+strings.Repeat("x", 20), "at 1", "write 0 "+strings.Repeat("x", 21), "no", "find 0", "batch 0 "+strings.Repeat("x", 20))
	wantLines(t, "a text of any bytes", "write 0 \x00\xff\r", "at 1", "find 0", "batch 0 \x00\xff\r", "write 0 \xc3", "at 2", "find 1", "batch 1 \xc3")
	wantLines(t, "what the store has is not in the part, and the other way about", "write 0 a", "at 1", "ask 0 0 1 b", "ok 1", "write 0 c", "at 2", "find 1", "batch 1 c", "find 2", "no")
}

// Three batches of 35 bytes are in each of eight segments; the last one has room for one
// of 15 bytes.
func TestWritesForWantOfRoom(t *testing.T) {
	long := strings.Repeat("x", 20)
	var l []string
	for n := range 24 {
		l = append(l, "write 0 "+long, fmt.Sprint("at ", n+1))
	}
	l = append(l, "write 0 "+long, "no", "write 0 y", "no", "write 0 ", "at 25", "write 0 ", "no", "find 24", "batch 24 ", "find 25", "no")
	wantLines(t, "eight segments", l...)
	wantLines(t, "room by a cut", append(l, "cut 23", "next 23", "write 1 "+long, "at 24", "write 1 "+long, "no")...)
	s, _, ok := impl.BrokerOf(strings.Repeat("write 0 "+long+"\n", 25))
	if !ok || len(s.Segments) != 8 || s.Next != 24 {
		t.Error(s, ok)
	}
}

func TestFindLines(t *testing.T) {
	wantLines(t, "none is there", "find 0", "no", "find 1", "no", "find 999999", "no")
	wantLines(t, "there, and behind", "write 0 a", "at 1", "write 0 b", "at 2", "find 0", "batch 0 a", "find 1", "batch 1 b", "find 2", "no", "find 100000", "no")
	wantLines(t, "nothing is below 0", "write 0 a", "at 1", "find -1", "what", "find -0", "what")
	wantLines(t, "what was cut", "write 0 a", "at 1", "write 0 b", "at 2", "cut 1", "next 1", "find 1", "no", "find 0", "batch 0 a", "write 0 c", "at 2", "find 1", "batch 1 c")
}

func TestCutLines(t *testing.T) {
	wantLines(t, "none is there", "cut 0", "next 0", "cut 1", "no")
	wantLines(t, "at an end", "write 0 a", "at 1", "write 0 b", "at 2", "cut 2", "next 2", "cut 3", "no", "find 1", "batch 1 b")
	wantLines(t, "from a batch on", "write 0 a", "at 1", "write 1 b", "at 2", "write 2 c", "at 3", "cut 1", "next 1", "cut 2", "no", "find 0", "batch 0 a")
	wantLines(t, "at 0", "write 3 a", "at 1", "write 3 b", "at 2", "cut 0", "next 0", "find 0", "no", "write 0 c", "at 1", "find 0", "batch 0 c")
	wantLines(t, "above", "write 0 a", "at 1", "cut 2", "no", "cut 100000", "no", "cut 100001", "no", "cut 999999", "no", "find 0", "batch 0 a")
	long := strings.Repeat("x", 20)
	var l []string
	for n := range 10 {
		l = append(l, "write 0 "+long, fmt.Sprint("at ", n+1))
	}
	wantLines(t, "within and between segments", append(l, "cut 7", "next 7", "find 6", "batch 6 "+long, "cut 6", "next 6", "cut 4", "next 4", "write 0 y", "at 5", "find 4", "batch 4 y")...)
}

func TestIsrLines(t *testing.T) {
	wantLines(t, "elect", "elect 1", "ok", "high", "high 0 1", "elect 1", "ok", "elect 3", "no", "elect 999999", "no", "shrink 2", "ok", "elect 2", "no", "elect 0", "ok", "high", "high 0 0")
	wantLines(t, "append", "append 0", "ok", "append 99", "ok", "append 100", "no", "append 999999", "no")
	wantLines(t, "fetch", "append 5", "ok", "fetch 1 1", "ok", "fetch 1 0", "ok", "fetch 2 30", "ok", "fetch 2 31", "no", "fetch 0 1", "no", "fetch 3 1", "no", "fetch 1 999999", "no")
	wantLines(t, "shrink", "shrink 0", "no", "shrink 3", "no", "shrink 1", "ok", "shrink 1", "no", "shrink 2", "ok", "elect 2", "no")
	wantLines(t, "expand", "expand 1", "no", "shrink 1", "ok", "expand 1", "ok", "expand 1", "no", "expand 0", "no", "expand 3", "no")
	wantLines(t, "expand of one that lacks what is committed", "shrink 1", "ok", "append 5", "ok", "fetch 2 1", "ok", "raise", "ok", "expand 1", "no", "fetch 1 1", "ok", "expand 1", "ok", "high", "high 1 0")
	wantLines(t, "raise", "raise", "no", "append 5", "ok", "raise", "no", "fetch 1 1", "ok", "raise", "no", "fetch 2 1", "ok", "raise", "ok", "raise", "no", "high", "high 1 0")
	wantLines(t, "a log up to its limit", append(append(timesOf(30, "append 1", "ok"), "append 1", "no", "fetch 1 30", "ok", "fetch 2 29", "ok", "raise", "ok"), "high", "high 29 0")...)
}

func TestHighAfterSeveralLeaders(t *testing.T) {
	wantLines(t, "at the beginning", "high", "high 0 0")
	wantLines(t, "several leaders",
		"append 5", "ok", "fetch 1 9", "ok", "fetch 2 9", "ok", "raise", "ok", "high", "high 1 0",
		"elect 2", "ok", "high", "high 1 2", "append 6", "ok", "raise", "no", "fetch 0 9", "ok", "fetch 1 9", "ok", "raise", "ok", "high", "high 2 2",
		"elect 1", "ok", "append 7", "ok", "append 8", "ok", "high", "high 2 1", "shrink 2", "ok", "fetch 0 1", "ok", "raise", "ok", "high", "high 3 1",
		"elect 2", "no", "elect 0", "ok", "high", "high 3 0", "append 9", "ok", "fetch 1 9", "ok", "raise", "ok", "high", "high 4 0")
	_, g, ok := impl.BrokerOf(script("append 5", "fetch 1 9", "shrink 2", "raise", "elect 1", "append 6"))
	want := isrAfter(plainIsr(3), isAppend(5), isFetch(1, 9), isShrink(2), isRaise(), isElect(1), isAppend(6))
	if !ok || !sameIsr(g, want) || g.High != 1 || g.Leader != 1 || g.Epoch != 1 {
		t.Error(g, ok)
	}
}

func TestReadersLines(t *testing.T) {
	wantLines(t, "join", "join 0", "ok", "join 0", "no", "join 1", "ok", "join 2", "no", "join 999999", "no")
	wantLines(t, "leave", "leave 0", "no", "join 0", "ok", "leave 0", "ok", "leave 0", "no", "leave 2", "no", "join 0", "ok")
	wantLines(t, "sync", "sync 0", "no", "join 0", "ok", "sync 0", "ok", "sync 0", "no", "join 1", "ok", "sync 0", "ok", "sync 1", "ok", "sync 2", "no")
	wantLines(t, "read", "read 0 0 1", "no", "join 0", "ok", "read 0 0 1", "no", "sync 0", "ok", "read 0 0 0", "no", "read 0 0 1", "ok", "read 0 1 999999", "ok", "read 0 2 1", "no", "read 1 0 1", "no", "read 2 0 1", "no")
	wantLines(t, "commit", "commit 0 0", "no", "join 0", "ok", "sync 0", "ok", "commit 0 0", "no", "read 0 0 2", "ok", "commit 0 0", "ok", "commit 0 0", "no", "commit 0 1", "no", "commit 0 2", "no", "commit 2 0", "no", "left", "left 6")
	wantLines(t, "who was left behind", "join 0", "ok", "sync 0", "ok", "read 0 1 2", "ok", "join 1", "ok", "commit 0 1", "no", "read 0 1 1", "ok", "sync 1", "ok", "read 1 1 1", "ok", "commit 1 1", "ok", "left", "left 7", "sync 0", "ok", "read 0 1 1", "no", "read 0 0 1", "ok")
}

func TestLeftLines(t *testing.T) {
	wantLines(t, "at the beginning", "left", "left 8")
	wantLines(t, "what is read and not committed", "join 0", "ok", "sync 0", "ok", "read 0 0 5", "ok", "left", "left 8")
	wantLines(t, "all of the part 0", "join 1", "ok", "sync 1", "ok", "read 1 0 6", "ok", "commit 1 0", "ok", "left", "left 3")
	wantLines(t, "all", "join 0", "ok", "join 1", "ok", "sync 0", "ok", "sync 1", "ok", "read 0 0 9", "ok", "read 1 1 3", "ok", "commit 0 0", "ok", "left", "left 3", "commit 1 1", "ok", "left", "left 0", "leave 0", "ok", "left", "left 0")
}

// What each line works on is of its own.
func TestLinesWorkOnTheirOwn(t *testing.T) {
	s, g, ok := impl.BrokerOf(script("ask 4 0 0 a", "join 0", "sync 0", "read 0 0 1", "commit 0 0"))
	if !ok || !sameStore(s, laid(0, nil, 0).made()) || !sameIsr(g, plainIsr(3)) {
		t.Error(s, g, ok)
	}
	s, g, ok = impl.BrokerOf(script("write 7 a", "append 3"))
	b := impl.Batch{Epoch: 7, Records: []string{"a"}}
	if !ok || !sameStore(s, laid(0, []impl.Batch{b}, 1).made()) || !sameIsr(g, isrAfter(plainIsr(3), isAppend(3))) {
		t.Error(s, g, ok)
	}
}

func TestRandomScripts(t *testing.T) {
	r := newRandom()
	seen := map[string]int{}
	for range 1500 {
		lines := randomLines(r, r.IntN(81))
		wantScript(t, "random", script(lines...))
		for _, a := range strings.Split(impl.RunBroker(script(lines...)), "\n") {
			first, _, _ := strings.Cut(a, " ")
			seen[first]++
		}
	}
	for _, word := range strings.Fields("ok again old gap fenced full no at batch next high left what") {
		if seen[word] < 20 {
			t.Error("too few are answered so", word, seen[word])
		}
	}
}

package tests

import (
	"slices"
	"strings"
	"testing"

	"loop.example/g00361/impl"
)

// Promise 18: a script's answers do not hang on what follows.

// answersTo are those to each line of a script.
func answersTo(t *testing.T, lines []string) []string {
	t.Helper()
	l := strings.SplitAfter(impl.RunBroker(script(lines...)), "\n")
	if len(l) != len(lines)+1 || l[len(lines)] != "" {
		t.Errorf("not one answer for each line: %q: %q", lines, l)
	}
	return l[:len(l)-1]
}

// wantEachBeginning asks of a script that each beginning of it is answered as it is there.
func wantEachBeginning(t *testing.T, lines []string) {
	t.Helper()
	all := answersTo(t, lines)
	for many := range lines {
		if got := answersTo(t, lines[:many]); !slices.Equal(got, all[:min(many, len(all))]) {
			t.Errorf("the first %d hang on what follows: %q: %q, not %q", many, lines, got, all)
		}
	}
}

// fewLines are of each kind, with numbers that lead on within few lines.
func fewLines() []string {
	return []string{
		"", "ask 4 0 0 a", "ask 0 0 0 b", "ask 4 1 0 c", "write 0 a", "write 1 ", "find 0", "cut 0",
		"elect 1", "append 5", "fetch 1 9", "fetch 2 9", "shrink 2", "expand 2", "raise", "high",
		"join 0", "join 1", "leave 0", "sync 0", "read 0 0 2", "commit 0 0", "left", "high ",
	}
}

func TestAllScriptsOfFewLines(t *testing.T) {
	few := fewLines()
	for _, a := range few {
		for _, b := range few {
			for _, c := range few {
				lines := []string{a, b, c}
				wantEachBeginning(t, lines)
				wantScript(t, "few lines", script(lines...))
			}
		}
	}
}

func TestAnswersDoNotHangOnWhatFollows(t *testing.T) {
	r := newRandom()
	long := 0
	for range 300 {
		lines := randomLines(r, r.IntN(81))
		wantEachBeginning(t, lines)
		if len(lines) == 80 {
			long++
		}
	}
	for range 20 {
		wantEachBeginning(t, randomLines(r, 80))
	}
	if long == 0 {
		t.Error("none has all lines")
	}
}

// The same beginning with other lines behind it, up to what a script may have.
func TestTheSameBeginningHasTheSameAnswers(t *testing.T) {
	r := newRandom()
	for range 300 {
		first := randomLines(r, r.IntN(41))
		want := impl.RunBroker(script(first...))
		for range 4 {
			text := script(first...) + script(randomLines(r, r.IntN(40))...)
			if got := impl.RunBroker(text); len(text) <= 2500 && !strings.HasPrefix(got, want) {
				t.Errorf("%q: %q, not %q", text, got, want)
			}
		}
	}
	want := impl.RunBroker(script("write 0 a", "append 5", "high"))
	for _, last := range []string{strings.Repeat("\n", 77), strings.Repeat("x", 2400) + "\n", "\xff\n", "cut 0\nwrite 0 b\n", "write 0 b\n"} {
		if got := impl.RunBroker(script("write 0 a", "append 5", "high") + last); got[:min(len(got), len(want))] != want {
			t.Errorf("%q: %q", last, got)
		}
	}
}

// leavesAll tells by a line and its answer that all is as it was.
func leavesAll(line, answer string) bool {
	kind, _, _ := strings.Cut(line, " ")
	first, _, _ := strings.Cut(strings.TrimSuffix(answer, "\n"), " ")
	return slices.Contains([]string{"no", "what", "again", "old", "gap", "fenced", "full"}, first) ||
		slices.Contains([]string{"find", "high", "left"}, kind)
}

// Without the lines that are refused, or only ask how it is, all others are answered as they
// were.
func TestWhatIsRefusedChangesNothing(t *testing.T) {
	r := newRandom()
	left := 0
	for range 800 {
		lines := randomLines(r, r.IntN(81))
		var done, want []string
		for i, answer := range answersTo(t, lines) {
			if leavesAll(lines[i], answer) {
				left++
				continue
			}
			done, want = append(done, lines[i]), append(want, answer)
		}
		if got := answersTo(t, done); !slices.Equal(got, want) {
			t.Errorf("%q: %q, not %q", done, got, want)
		}
		s, g, ok := impl.BrokerOf(script(lines...))
		s1, g1, ok1 := impl.BrokerOf(script(done...))
		if !ok || !ok1 || !sameStore(s, s1) || !sameIsr(g, g1) {
			t.Errorf("%q: %v %v, not %v %v", done, s1, g1, s, g)
		}
	}
	if left < 5000 {
		t.Error("too few are left out", left)
	}
}

// Of each beginning the store and the group are those that its lines alone lead to, and one
// line more leads on from there.
func TestTheBrokerOfEachBeginning(t *testing.T) {
	r := newRandom()
	wrote, stepped := 0, 0
	for range 150 {
		lines := randomLines(r, 80)
		now := newPlainBroker()
		for many := range len(lines) + 1 {
			s, g, ok := impl.BrokerOf(script(lines[:many]...))
			if !ok || !sameStore(s, now.store.made()) || !sameIsr(g, now.group) || !impl.GoodStore(s) || !impl.GoodGroup(g) {
				t.Errorf("%q: %v %v %v", lines[:many], s, g, ok)
			}
			if many < len(lines) {
				now.line(lines[many])
			}
		}
		wrote += now.store.made().Next
		stepped += now.group.Epoch + now.group.High
	}
	if wrote < 300 || stepped < 300 {
		t.Error("too little is done", wrote, stepped)
	}
}

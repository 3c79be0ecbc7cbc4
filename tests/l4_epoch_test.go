package tests

import (
	"slices"
	"testing"

	"loop.example/g00361/impl"
)

// Promise 4: by the epochs of leaders alone one comes to where two logs part,
// where each epoch that both have begins behind the same entries in both.

// wantEntries holds the answers of one log against what the plain words tell.
func wantEntries(t *testing.T, why string, l []int) {
	t.Helper()
	if got := impl.GoodEntries(l); got != plainEntries(l) {
		t.Errorf("%s: GoodEntries %v: %v", why, l, got)
	}
	want, wanted := plainEpochs(l)
	m, ok := impl.MarksOf(l)
	if ok != wanted || !slices.Equal(m, want) {
		t.Errorf("%s: MarksOf %v: %v %v", why, l, m, ok)
	}
	if ok && !impl.GoodMarks(m) {
		t.Errorf("%s: marks of a log are good ones: %v", why, m)
	}
}

// wantMarks does so of marks, with each end, epoch and place of the lists.
func wantMarks(t *testing.T, why string, m []impl.EpochMark, ends []int, epochs []int) {
	t.Helper()
	if got := impl.GoodMarks(m); got != plainMarksGood(m) {
		t.Errorf("%s: GoodMarks %v: %v", why, m, got)
	}
	for _, end := range ends {
		want, wanted := plainCutMarks(m, end)
		if got, ok := impl.CutMarks(m, end); ok != wanted || !slices.Equal(got, want) {
			t.Errorf("%s: CutMarks %v %d: %v %v", why, m, end, got, ok)
		}
		for _, epoch := range epochs {
			told, at, wanted := plainEnd(m, end, epoch)
			if e, n, ok := impl.EndOfEpoch(m, end, epoch); e != told || n != at || ok != wanted {
				t.Errorf("%s: EndOfEpoch %v %d %d: %d %d %v", why, m, end, epoch, e, n, ok)
			}
		}
	}
}

// wantFollowed does so of a leader's and a follower's log.
func wantFollowed(t *testing.T, why string, leader []int, follower []int) {
	t.Helper()
	part, wanted := plainPart(leader, follower)
	if n, ok := impl.PartAt(leader, follower); n != part || ok != wanted {
		t.Errorf("%s: PartAt %v %v: %d %v", why, leader, follower, n, ok)
	}
	at, often, _ := plainMatch(leader, follower)
	if n, asked, ok := impl.MatchBy(leader, follower); n != at || asked != often || ok != wanted {
		t.Errorf("%s: MatchBy %v %v: %d %d %v", why, leader, follower, n, asked, ok)
	}
	var want []int
	if wanted {
		want = append(append(want, follower[:at]...), leader[at:]...)
	}
	if l, ok := impl.FollowBy(leader, follower); ok != wanted || !slices.Equal(l, want) {
		t.Errorf("%s: FollowBy %v %v: %v %v", why, leader, follower, l, ok)
	}
}

// wantMatched asks for just these answers of a leader's and a follower's log.
func wantMatched(t *testing.T, why string, leader []int, follower []int, part int, at int, often int) {
	t.Helper()
	if n, ok := impl.PartAt(leader, follower); n != part || !ok {
		t.Errorf("%s: PartAt: %d %v", why, n, ok)
	}
	if n, ok := impl.PartAt(follower, leader); n != part || !ok {
		t.Errorf("%s: PartAt, turned round: %d %v", why, n, ok)
	}
	if n, asked, ok := impl.MatchBy(leader, follower); n != at || asked != often || !ok {
		t.Errorf("%s: MatchBy: %d %d %v", why, n, asked, ok)
	}
	wantFollowed(t, why, leader, follower)
}

// steps are the epochs 0, 1, 2 .. or each of another distance.
func steps(many int, from int, by int) []int {
	var l []int
	for i := range many {
		l = append(l, from+i*by)
	}
	return l
}

// someEntries are good logs.
func someEntries() map[string][]int {
	return map[string][]int{
		"none":                nil,
		"a list of none":      {},
		"one":                 {0},
		"one of the last":     {100},
		"the ends":            {0, 100},
		"epochs that stay":    {5, 5, 5},
		"epochs that rise":    {0, 1, 2},
		"both":                {0, 0, 1, 3, 3},
		"as many as may":      steps(30, 0, 1),
		"as many, far apart":  steps(30, 13, 3),
		"as many of one":      slices.Repeat([]int{100}, 30),
		"as many, two epochs": append(make([]int, 29), 100),
	}
}

// badEntries are not good, each by one thing.
func badEntries() map[string][]int {
	return map[string][]int{
		"one too many":        steps(31, 0, 1),
		"one of 0 too many":   make([]int, 31),
		"below 0":             {-1},
		"below 0, then not":   {-1, 0},
		"above the last":      {101},
		"above it at the end": {0, 1, 101},
		"one that falls":      {1, 0},
		"falls in the middle": {0, 2, 1, 2},
		"falls at the end":    {0, 1, 2, 1},
		"falls from the last": {100, 99},
		"the last one falls":  append(steps(29, 1, 1), 28),
	}
}

func TestGoodEntries(t *testing.T) {
	for why, l := range someEntries() {
		if !impl.GoodEntries(l) {
			t.Error(why)
		}
		wantEntries(t, why, l)
	}
	for why, l := range badEntries() {
		if impl.GoodEntries(l) {
			t.Error(why)
		}
		if m, ok := impl.MarksOf(l); len(m) != 0 || ok {
			t.Error(why, m, ok)
		}
		wantEntries(t, why, l)
	}
}

func TestMarksOf(t *testing.T) {
	m, ok := impl.MarksOf([]int{0, 0, 1, 3, 3, 100})
	if want := marked(0, 0, 1, 2, 3, 3, 100, 5); !ok || !slices.Equal(m, want) {
		t.Error(m, ok)
	}
	if m, ok := impl.MarksOf(nil); len(m) != 0 || !ok {
		t.Error("a log without entries has no marks", m, ok)
	}
	m, ok = impl.MarksOf(steps(30, 71, 1))
	if len(m) != 30 || !ok || m[29] != (impl.EpochMark{Epoch: 100, Start: 29}) {
		t.Error("as many marks as may be", m, ok)
	}
	for _, l := range allEntries(6, 4) {
		wantEntries(t, "all", l)
	}
}

// someMarks are good ones.
func someMarks() map[string][]impl.EpochMark {
	most, _ := plainEpochs(steps(30, 0, 1))
	last, _ := plainEpochs(steps(30, 71, 1))
	return map[string][]impl.EpochMark{
		"none":               nil,
		"a list of none":     {},
		"one":                marked(0, 0),
		"the greatest one":   marked(100, 29),
		"the ends":           marked(0, 0, 100, 29),
		"of a log":           marked(0, 0, 1, 2, 3, 3),
		"without a start":    marked(2, 4, 5, 7, 9, 20),
		"as many as may":     most,
		"the last of epochs": last,
	}
}

// badMarks are not good, each by one thing.
func badMarks() map[string][]impl.EpochMark {
	var many []impl.EpochMark
	for i := range 31 {
		many = append(many, impl.EpochMark{Epoch: i, Start: i})
	}
	return map[string][]impl.EpochMark{
		"too many":              many,
		"an epoch below 0":      marked(-1, 0),
		"an epoch above":        marked(101, 0),
		"a start below 0":       marked(0, -1),
		"a start above":         marked(0, 30),
		"the last epoch above":  marked(0, 0, 1, 1, 101, 2),
		"the last start above":  marked(0, 0, 1, 1, 2, 30),
		"two alike":             marked(3, 3, 3, 3),
		"two epochs alike":      marked(3, 3, 3, 4),
		"two starts alike":      marked(3, 3, 4, 3),
		"an epoch that falls":   marked(3, 3, 2, 4),
		"a start that falls":    marked(3, 3, 4, 2),
		"both fall":             marked(3, 3, 2, 2),
		"falls at the end":      marked(0, 0, 1, 1, 5, 5, 4, 6),
		"the start falls there": marked(0, 0, 1, 1, 5, 5, 6, 4),
		"alike, not side by":    marked(0, 0, 1, 1, 0, 2),
	}
}

func TestGoodMarks(t *testing.T) {
	for why, m := range someMarks() {
		if !impl.GoodMarks(m) {
			t.Error(why)
		}
	}
	for why, m := range badMarks() {
		if impl.GoodMarks(m) {
			t.Error(why)
		}
		if got, ok := impl.CutMarks(m, 1); len(got) != 0 || ok {
			t.Error(why, got, ok)
		}
		if e, end, ok := impl.EndOfEpoch(m, 30, 100); e != 0 || end != 0 || ok {
			t.Error(why, e, end, ok)
		}
		wantMarks(t, why, m, steps(33, -1, 1), steps(103, -1, 1))
	}
}

func TestCutMarks(t *testing.T) {
	m := marked(0, 0, 4, 7, 9, 29)
	for at, many := range map[int]int{0: 0, 1: 1, 6: 1, 7: 1, 8: 2, 28: 2, 29: 2, 30: 3} {
		if got, ok := impl.CutMarks(m, at); !ok || !slices.Equal(got, m[:many]) {
			t.Error(at, got, ok)
		}
	}
	for _, at := range []int{-1, 31} {
		if got, ok := impl.CutMarks(m, at); len(got) != 0 || ok {
			t.Error(at, got, ok)
		}
	}
	for why, m := range someMarks() {
		wantMarks(t, why, m, steps(33, -1, 1), nil)
	}
}

// Marks cut at a place are those of the log cut there.
func TestMarksAreCutAsTheirLogIs(t *testing.T) {
	for why, l := range someEntries() {
		m, _ := impl.MarksOf(l)
		for at := range len(l) + 1 {
			want, _ := impl.MarksOf(l[:at])
			if got, ok := impl.CutMarks(m, at); !ok || !slices.Equal(got, want) {
				t.Error(why, at, got, ok)
			}
		}
	}
}

func TestEndOfEpoch(t *testing.T) {
	m := marked(2, 0, 5, 3, 9, 7)
	type answer struct {
		epoch, end int
	}
	for epoch, want := range map[int]answer{0: {-1, 0}, 1: {-1, 0}, 2: {2, 3}, 3: {2, 3}, 4: {2, 3}, 5: {5, 7}, 8: {5, 7}, 9: {9, 8}, 10: {9, 8}, 100: {9, 8}} {
		if e, end, ok := impl.EndOfEpoch(m, 8, epoch); e != want.epoch || end != want.end || !ok {
			t.Error(epoch, e, end, ok)
		}
	}
	for _, wrong := range [][2]int{{-1, 5}, {0, 5}, {3, 5}, {6, 5}, {7, 5}, {31, 5}, {8, -1}, {8, 101}, {7, 2}, {31, 0}} {
		if e, end, ok := impl.EndOfEpoch(m, wrong[0], wrong[1]); e != 0 || end != 0 || ok {
			t.Error(wrong, e, end, ok)
		}
	}
	if e, end, ok := impl.EndOfEpoch(m, 30, 9); e != 9 || end != 30 || !ok {
		t.Error("the greatest end", e, end, ok)
	}
	for _, end := range []int{0, 1, 30} {
		if e, at, ok := impl.EndOfEpoch(nil, end, 100); e != -1 || at != 0 || !ok {
			t.Error("no marks", e, at, ok)
		}
	}
	for why, m := range someMarks() {
		wantMarks(t, why, m, steps(33, -1, 1), steps(103, -1, 1))
	}
}

// What an epoch's end tells of a log's marks is what the log itself has.
func TestEndsAreThoseOfTheLog(t *testing.T) {
	for _, l := range allEntries(6, 4) {
		m, _ := impl.MarksOf(l)
		for epoch := range 5 {
			many, told := upTo(l, epoch), -1
			if many > 0 {
				told = l[many-1]
			}
			if e, end, ok := impl.EndOfEpoch(m, len(l), epoch); e != told || end != many || !ok {
				t.Error(l, epoch, e, end, ok)
			}
		}
	}
}

func TestLogsThatPart(t *testing.T) {
	one := []int{0, 0, 1, 3, 3}
	wantMatched(t, "both without entries", nil, nil, 0, 0, 0)
	wantMatched(t, "the follower without entries", one, nil, 0, 0, 0)
	wantMatched(t, "the leader without entries", nil, one, 0, 0, 1)
	wantMatched(t, "alike", one, one, 5, 5, 1)
	wantMatched(t, "alike, as many as may", steps(30, 0, 1), steps(30, 0, 1), 30, 30, 1)
	wantMatched(t, "the follower is a beginning", one, one[:2], 2, 2, 1)
	wantMatched(t, "a beginning within an epoch", one, one[:4], 4, 4, 1)
	wantMatched(t, "the leader is a beginning", one[:4], one, 4, 4, 1)
	wantMatched(t, "a beginning of less epochs", one[:3], one, 3, 3, 2)
	wantMatched(t, "differ from the first on", []int{0, 0}, []int{1, 1}, 0, 0, 1)
	wantMatched(t, "differ so, the leader later", []int{1, 1}, []int{0, 0}, 0, 0, 1)
	wantMatched(t, "none in common", []int{0, 2, 4, 6}, []int{1, 3, 5}, 0, 0, 3)
	wantMatched(t, "none in common, the follower later", []int{1, 3, 5}, []int{0, 2, 4, 6}, 0, 0, 4)
	wantMatched(t, "the follower's own at the front", ofEpochs(0, 2), ofEpochs(2, 2), 0, 2, 1)
	wantMatched(t, "the leader's own at the front", ofEpochs(2, 2), ofEpochs(0, 2), 0, 2, 1)
	wantMatched(t, "the follower's own within", ofEpochs(2, 0, 2), ofEpochs(2, 1, 2), 2, 4, 1)
	wantMatched(t, "the leader's own within", ofEpochs(2, 1, 2), ofEpochs(2, 0, 2), 2, 4, 1)
	wantMatched(t, "the follower's own at the end", ofEpochs(2, 2), ofEpochs(2, 1, 3), 3, 3, 2)
	wantMatched(t, "the leader's own at the end", ofEpochs(2, 1, 3), ofEpochs(2, 2), 3, 3, 1)
	wantMatched(t, "as many as may, one alike", steps(30, 0, 1), append([]int{0}, steps(29, 50, 1)...), 1, 1, 2)
}

// What the leader has not is asked no more: one question passes over all of the
// follower's epochs that are above what was told.
func TestHowOftenIsAsked(t *testing.T) {
	wantMatched(t, "own epochs at the end", []int{0}, steps(30, 0, 1), 1, 1, 2)
	wantMatched(t, "no epoch as low", []int{90}, steps(30, 0, 1), 0, 0, 1)
	wantMatched(t, "each between two", steps(30, 0, 2), steps(30, 1, 2), 0, 0, 30)
	wantMatched(t, "two gaps", []int{0, 1, 4, 9}, []int{0, 1, 2, 3, 5, 6, 7, 8}, 2, 2, 3)
	wantMatched(t, "the told one is not the follower's", []int{0, 3, 9}, []int{0, 1, 2, 4, 5}, 1, 1, 3)
}

// A log whose epochs do not begin behind the same entries may come out with
// epochs that fall: the words are kept all the same.
func TestFollowersOfOtherLogs(t *testing.T) {
	l, ok := impl.FollowBy([]int{0, 0, 0, 1}, []int{1})
	if !ok || !slices.Equal(l, []int{1, 0, 0, 1}) {
		t.Error(l, ok)
	}
	l, ok = impl.FollowBy([]int{1, 1}, []int{0, 0, 1})
	if !ok || !slices.Equal(l, []int{0, 0}) {
		t.Error(l, ok)
	}
}

func TestAllSmallLogsFollow(t *testing.T) {
	all := allEntries(5, 4)
	for _, leader := range all {
		for _, follower := range all {
			wantFollowed(t, "all", leader, follower)
			wantPromised(t, leader, follower)
		}
	}
}

// wantPromised asks for the promise itself, of any two logs for which it holds.
func wantPromised(t *testing.T, leader []int, follower []int) bool {
	t.Helper()
	if !asOne(leader, follower) {
		return false
	}
	part, _ := impl.PartAt(leader, follower)
	at, asked, ok := impl.MatchBy(leader, follower)
	if at != part || !ok || asked > len(follower) {
		t.Errorf("%v %v part at %d, matched at %d, asked %d, %v", leader, follower, part, at, asked, ok)
	}
	if !slices.Equal(leader[:at], follower[:at]) || at < len(leader) && at < len(follower) && leader[at] == follower[at] {
		t.Errorf("%v %v do not part at %d", leader, follower, at)
	}
	if l, ok := impl.FollowBy(leader, follower); !ok || !slices.Equal(l, leader) {
		t.Errorf("%v %v: %v %v", leader, follower, l, ok)
	}
	return true
}

func TestLogsOfLeadersMatchWhereTheyPart(t *testing.T) {
	r := newRandom()
	for range 2000 {
		logs := randomTerms(r)
		for _, leader := range logs {
			for _, follower := range logs {
				wantFollowed(t, "terms", leader, follower)
				if !wantPromised(t, leader, follower) {
					t.Fatal("leaders left", leader, follower)
				}
			}
		}
	}
}

func TestAnyGoodLogsFollow(t *testing.T) {
	r := newRandom()
	for range 3000 {
		leader, follower := randomEntries(r, 30), randomEntries(r, 30)
		wantEntries(t, "random", leader)
		wantFollowed(t, "random", leader, follower)
		wantPromised(t, leader, follower)
		m, _ := impl.MarksOf(leader)
		wantMarks(t, "random", m, []int{len(leader) - 1, len(leader), r.IntN(31)}, []int{r.IntN(101), r.IntN(101)})
	}
}

// One log that is not good beside one that is.
func TestFollowingNeedsTwoGoodLogs(t *testing.T) {
	for why, bad := range badEntries() {
		for _, good := range someEntries() {
			for _, two := range [][2][]int{{bad, good}, {good, bad}, {bad, bad}} {
				if n, ok := impl.PartAt(two[0], two[1]); n != 0 || ok {
					t.Error(why, n, ok)
				}
				if n, asked, ok := impl.MatchBy(two[0], two[1]); n != 0 || asked != 0 || ok {
					t.Error(why, n, asked, ok)
				}
				if l, ok := impl.FollowBy(two[0], two[1]); len(l) != 0 || ok {
					t.Error(why, l, ok)
				}
			}
		}
	}
}

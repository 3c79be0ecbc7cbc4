package tests

import (
	"math"
	"slices"
	"testing"

	"loop.example/g00361/impl"
)

// Promise 6: where votes are more than half any two quorums meet; what blocks
// groups meets each of them, and no less does.

// wantVotes holds the answers of votes against what the plain words tell, with
// each of these lists of members and numbers.
func wantVotes(t *testing.T, why string, v impl.Votes, lists [][]int, numbers []int) {
	t.Helper()
	if got := impl.GoodVotes(v); got != plainVotesGood(v) {
		t.Errorf("%s: GoodVotes %v: %v", why, v, got)
	}
	want, wanted := plainLeastQuorums(v)
	if got, ok := impl.LeastQuorums(v); ok != wanted || !sameLists(got, want) {
		t.Errorf("%s: LeastQuorums %v: %v %v", why, v, got, ok)
	}
	for _, l := range lists {
		want, wanted := plainQuorum(v, l)
		if got, ok := impl.IsQuorum(v, l); got != want || ok != wanted {
			t.Errorf("%s: IsQuorum %v %v: %v %v", why, v, l, got, ok)
		}
	}
	for _, read := range numbers {
		for _, write := range numbers {
			want, wanted := plainReadWrite(v, read, write)
			if got, ok := impl.ReadWrite(v, read, write); got != want || ok != wanted {
				t.Errorf("%s: ReadWrite %v %d %d: %v %v", why, v, read, write, got, ok)
			}
		}
	}
}

// wantGroups does so of groups, with each of these lists of failed ones and
// numbers of members.
func wantGroups(t *testing.T, why string, l [][]int, failed [][]int, members []int) {
	t.Helper()
	want, wanted := plainAllMeet(l)
	if got, ok := impl.AllMeet(l); got != want || ok != wanted {
		t.Errorf("%s: AllMeet %v: %v %v", why, l, got, ok)
	}
	want, wanted = plainCoterie(l)
	if got, ok := impl.IsCoterie(l); got != want || ok != wanted {
		t.Errorf("%s: IsCoterie %v: %v %v", why, l, got, ok)
	}
	for _, f := range failed {
		want, wanted := plainSurvives(l, f)
		if got, ok := impl.Survives(l, f); got != want || ok != wanted {
			t.Errorf("%s: Survives %v %v: %v %v", why, l, f, got, ok)
		}
	}
	for _, n := range members {
		want, wanted := plainBlocks(n, l)
		if got, ok := impl.BlocksOf(n, l); ok != wanted || !sameLists(got, want) {
			t.Errorf("%s: BlocksOf %d %v: %v %v", why, n, l, got, ok)
		}
	}
}

// wantDominates does so of two of them, either way round.
func wantDominates(t *testing.T, why string, a, b [][]int) {
	t.Helper()
	for range 2 {
		want, wanted := plainDominates(a, b)
		if got, ok := impl.Dominates(a, b); got != want || ok != wanted {
			t.Errorf("%s: Dominates %v %v: %v %v", why, a, b, got, ok)
		}
		a, b = b, a
	}
}

func someVotes() map[string]impl.Votes {
	return map[string]impl.Votes{
		"one member":            votesOf(1, 1),
		"one without a vote":    votesOf(1, 0),
		"a weight of 9":         votesOf(9, 9),
		"two and one":           votesOf(3, 2, 1, 1),
		"more than half":        votesOf(2, 1, 1, 1),
		"as many as may":        votesOf(4, 1, 1, 1, 1, 1, 1, 1),
		"all with 9":            votesOf(63, 9, 9, 9, 9, 9, 9, 9),
		"one above all":         votesOf(64, 9, 9, 9, 9, 9, 9, 9),
		"a Need of 1":           votesOf(1, 0, 1, 2, 0, 3),
		"a Need of 100":         votesOf(100, 9, 9, 9, 9, 9, 9, 9),
		"noughts between":       votesOf(5, 0, 3, 0, 2, 0, 4, 0),
		"no weight but noughts": votesOf(1, 0, 0, 0, 0, 0, 0, 0),
		"half":                  votesOf(2, 1, 1, 1, 1),
	}
}

// badVotes are not good, each by one thing.
func badVotes() map[string]impl.Votes {
	return map[string]impl.Votes{
		"zero":                {},
		"no weight":           votesOf(1),
		"a list of none":      {Weights: []int{}, Need: 1},
		"one too many":        votesOf(4, 1, 1, 1, 1, 1, 1, 1, 1),
		"a weight below 0":    votesOf(1, -1),
		"below 0 at the end":  votesOf(1, 1, 1, -1),
		"a weight above":      votesOf(1, 10),
		"above at the end":    votesOf(1, 9, 9, 9, 9, 9, 9, 10),
		"a Need of 0":         votesOf(0, 1, 1),
		"a Need below 0":      votesOf(-1, 1, 1),
		"a Need of 101":       votesOf(101, 1, 1),
		"the greatest Need":   votesOf(math.MaxInt, 1),
		"weights that wrap":   votesOf(1, math.MaxInt, math.MaxInt, 3),
		"the least weight":    votesOf(1, math.MinInt),
		"a bad one in middle": votesOf(3, 2, 10, 1),
	}
}

func TestGoodVotes(t *testing.T) {
	for why, v := range someVotes() {
		if !impl.GoodVotes(v) {
			t.Error(why)
		}
		wantVotes(t, why, v, allLists(7), steps(102, 0, 1))
	}
	for why, v := range badVotes() {
		if impl.GoodVotes(v) {
			t.Error(why)
		}
		if is, ok := impl.IsQuorum(v, nil); is || ok {
			t.Error(why, is, ok)
		}
		if is, ok := impl.IsQuorum(v, []int{0}); is || ok {
			t.Error(why, is, ok)
		}
		if l, ok := impl.LeastQuorums(v); len(l) != 0 || ok {
			t.Error(why, l, ok)
		}
		if is, ok := impl.ReadWrite(v, 100, 100); is || ok {
			t.Error(why, is, ok)
		}
		wantVotes(t, why, v, allLists(3), []int{0, 1, 100, 101})
	}
	for n := -1; n <= 10; n++ {
		for need := -1; need <= 102; need++ {
			good := n >= 0 && n <= 9 && need >= 1 && need <= 100
			if impl.GoodVotes(votesOf(need, 1, n)) != good {
				t.Error(n, need)
			}
		}
	}
}

func TestIsQuorum(t *testing.T) {
	v := votesOf(5, 3, 0, 2, 4)
	for _, c := range []struct {
		why  string
		some []int
		is   bool
		ok   bool
	}{
		{"none", nil, false, true},
		{"a list of none", []int{}, false, true},
		{"all", []int{0, 1, 2, 3}, true, true},
		{"just at Need", []int{0, 2}, true, true},
		{"at Need with a nought", []int{0, 1, 2}, true, true},
		{"one below", []int{3}, false, true},
		{"one below with a nought", []int{1, 3}, false, true},
		{"one above", []int{2, 3}, true, true},
		{"a nought alone", []int{1}, false, true},
		{"falling", []int{2, 0}, false, false},
		{"falling at the end", []int{0, 2, 1}, false, false},
		{"twice the same", []int{3, 3}, false, false},
		{"twice at the end", []int{0, 3, 3}, false, false},
		{"no weight", []int{4}, false, false},
		{"no weight at the end", []int{0, 2, 4}, false, false},
		{"a member beyond", []int{0, 2, 7}, false, false},
		{"below 0", []int{-1}, false, false},
		{"below 0 at first", []int{-1, 0, 2}, false, false},
	} {
		if is, ok := impl.IsQuorum(v, c.some); is != c.is || ok != c.ok {
			t.Error(c.why, is, ok)
		}
	}
	if is, ok := impl.IsQuorum(votesOf(100, 9, 9, 9, 9, 9, 9, 9), steps(7, 0, 1)); is || !ok {
		t.Error("none reaches 100", is, ok)
	}
	if is, ok := impl.IsQuorum(votesOf(63, 9, 9, 9, 9, 9, 9, 9), steps(7, 0, 1)); !is || !ok {
		t.Error("all reach 63", is, ok)
	}
}

func TestLeastQuorums(t *testing.T) {
	for _, c := range []struct {
		why  string
		v    impl.Votes
		want [][]int
	}{
		{"one", votesOf(1, 1), [][]int{{0}}},
		{"by bits, not by lists", votesOf(3, 1, 1, 2, 3), [][]int{{0, 2}, {1, 2}, {3}}},
		{"noughts", votesOf(2, 0, 1, 0, 1, 0, 2), [][]int{{1, 3}, {5}}},
		{"a Need that none reaches", votesOf(5, 2, 2), nil},
		{"only noughts", votesOf(1, 0, 0, 0), nil},
		{"all are needed", votesOf(4, 1, 1, 1, 1), [][]int{{0, 1, 2, 3}}},
		{"each alone", votesOf(1, 1, 2, 3), [][]int{{0}, {1}, {2}}},
		{"two of three", votesOf(2, 1, 1, 1), [][]int{{0, 1}, {0, 2}, {1, 2}}},
		{"the last alone, or the others", votesOf(3, 1, 1, 1, 3), [][]int{{0, 1, 2}, {3}}},
	} {
		if l, ok := impl.LeastQuorums(c.v); !ok || !sameLists(l, c.want) {
			t.Error(c.why, l, ok)
		}
	}
	l, ok := impl.LeastQuorums(votesOf(4, 1, 1, 1, 1, 1, 1, 1))
	if !ok || !sameLists(l, listsOf(4, 7)) || len(l) != 35 {
		t.Error("four of seven", l, ok)
	}
}

// eachOne asks that each list holds, none without any one of its own, and that
// the lists rise by their bits.
func eachOne(t *testing.T, why string, l [][]int, holds func(some []int) bool) {
	t.Helper()
	last := -1
	for _, g := range l {
		bits := 0
		for _, m := range g {
			bits += 1 << m
		}
		if bits <= last || !plainRising(g, 7) {
			t.Error(why, "not in order", l)
		}
		last = bits
		if !holds(g) {
			t.Error(why, "not held by", g)
		}
		for i := range g {
			if holds(lessOne(g, i)) {
				t.Error(why, g, "does not need", g[i])
			}
		}
	}
}

// manyVotes are all with up to three small Weights, and some at random.
func manyVotes() []impl.Votes {
	var out []impl.Votes
	for _, v := range [][]int{{0}, {1}, {9}} {
		for need := 1; need <= 10; need++ {
			out = append(out, votesOf(need, v...))
		}
	}
	for n := range 64 {
		for need := 1; need <= 10; need++ {
			out = append(out, votesOf(need, n%4, n/4%4, n/16), votesOf(need, n%8, n/8))
		}
	}
	r := newRandom()
	for range 2000 {
		out = append(out, randomVotes(r))
	}
	return out
}

func TestLeastQuorumsNeedEachOfTheirOwn(t *testing.T) {
	for _, v := range manyVotes() {
		l, ok := impl.LeastQuorums(v)
		if !ok {
			t.Fatal(v)
		}
		eachOne(t, "quorums", l, func(some []int) bool {
			is, ok := impl.IsQuorum(v, some)
			return is && ok
		})
		for _, g := range l {
			if slices.ContainsFunc(g, func(m int) bool { return v.Weights[m] == 0 }) {
				t.Error("a member without a vote", v, g)
			}
		}
		// No quorum is left out: each has all of a least one.
		for _, some := range allLists(len(v.Weights)) {
			is, _ := impl.IsQuorum(v, some)
			if is != slices.ContainsFunc(l, func(g []int) bool { return isPartOf(g, some) }) {
				t.Error("quorums and least ones", v, some, is)
			}
		}
		wantVotes(t, "many", v, nil, nil)
	}
}

func TestQuorumsOfMoreThanHalfMeet(t *testing.T) {
	met, unmet := 0, 0
	for _, v := range manyVotes() {
		l, _ := impl.LeastQuorums(v)
		meet, ok := impl.AllMeet(l)
		if !ok {
			t.Fatal(v, l)
		}
		is, ok := impl.IsCoterie(l)
		if !ok || is != meet {
			t.Error("least ones that meet are a coterie", v, is, ok)
		}
		if 2*v.Need > plainWeight(v, steps(len(v.Weights), 0, 1)) {
			if met++; !meet {
				t.Error("more than half, and two do not meet", v)
			}
		} else if !meet {
			unmet++
		}
	}
	if met < 500 || unmet < 500 {
		t.Error("too few of a kind", met, unmet)
	}
}

// Whatever is read meets whatever was written, and two writes meet.
func TestReadersMeetWriters(t *testing.T) {
	r := newRandom()
	both, neither := 0, 0
	for _, v := range manyVotes() {
		read, write := 1+r.IntN(20), 1+r.IntN(20)
		is, ok := impl.ReadWrite(v, read, write)
		if !ok {
			t.Fatal(v)
		}
		if !is {
			neither++
			continue
		}
		both++
		readers, _ := impl.LeastQuorums(impl.Votes{Weights: v.Weights, Need: read})
		writers, _ := impl.LeastQuorums(impl.Votes{Weights: v.Weights, Need: write})
		for _, w := range writers {
			if !meetsAll(w, readers) || !meetsAll(w, writers) {
				t.Error("do not meet", v, read, write, w)
			}
		}
	}
	if both < 500 || neither < 500 {
		t.Error("too few of a kind", both, neither)
	}
}

func TestReadWrite(t *testing.T) {
	v := votesOf(1, 3, 0, 4) // 7 in all
	for _, c := range []struct {
		why   string
		read  int
		write int
		is    bool
		ok    bool
	}{
		{"just at all", 3, 4, false, true},
		{"one above", 4, 4, true, true},
		{"twice write is too little", 5, 3, false, true},
		{"read has all, write too little", 100, 3, false, true},
		{"one reads, all write", 1, 7, true, true},
		{"one reads, one fewer write", 1, 6, false, true},
		{"both 1", 1, 1, false, true},
		{"the greatest", 100, 100, true, true},
		{"read 0", 0, 100, false, false},
		{"write 0", 100, 0, false, false},
		{"read 101", 101, 100, false, false},
		{"write 101", 100, 101, false, false},
		{"read below 0", -1, 100, false, false},
		{"write below 0", 100, -1, false, false},
		{"the greatest numbers", math.MaxInt, math.MaxInt, false, false},
	} {
		if is, ok := impl.ReadWrite(v, c.read, c.write); is != c.is || ok != c.ok {
			t.Error(c.why, is, ok)
		}
	}
	even := votesOf(1, 4, 4)
	if is, ok := impl.ReadWrite(even, 5, 4); is || !ok {
		t.Error("twice write just at all", is, ok)
	}
	if is, ok := impl.ReadWrite(even, 4, 5); !is || !ok {
		t.Error("twice write above", is, ok)
	}
	if is, ok := impl.ReadWrite(votesOf(1, 0), 1, 1); !is || !ok {
		t.Error("no weight but a nought", is, ok)
	}
	if is, ok := impl.ReadWrite(votesOf(1, 9, 9, 9, 9, 9, 9, 9), 31, 32); is || !ok {
		t.Error("just at 63", is, ok)
	}
	if is, ok := impl.ReadWrite(votesOf(1, 9, 9, 9, 9, 9, 9, 9), 32, 32); !is || !ok {
		t.Error("one above 63", is, ok)
	}
	for need := 1; need <= 100; need++ {
		if is, ok := impl.ReadWrite(votesOf(need, 3, 0, 4), 4, 4); !is || !ok {
			t.Error("Need has no part in it", need, is, ok)
		}
	}
}

func someGroups() map[string][][]int {
	return map[string][][]int{
		"none":                 nil,
		"a list of none":       {},
		"one":                  {{0}},
		"the last member":      {{6}},
		"all members":          {{0, 1, 2, 3, 4, 5, 6}},
		"two apart":            {{0}, {1}},
		"two that meet":        {{0, 1}, {1, 2}},
		"two alike":            {{0, 1}, {0, 1}},
		"one in another":       {{0}, {0, 1}},
		"another in one":       {{2, 3, 6}, {3}},
		"two of three":         {{0, 1}, {0, 2}, {1, 2}},
		"the last is apart":    {{0, 1}, {0, 2}, {1, 2}, {3}},
		"alike at the ends":    {{0, 1}, {0, 2}, {1, 2}, {0, 1}},
		"a plane of seven":     {{0, 1, 2}, {0, 3, 4}, {0, 5, 6}, {1, 3, 5}, {1, 4, 6}, {2, 3, 6}, {2, 4, 5}},
		"four of seven":        listsOf(4, 7),
		"three of seven":       listsOf(3, 7),
		"as many as may":       allLists(7)[1:41],
		"as many of one":       slices.Repeat([][]int{{6}}, 40),
		"three pairs":          {{0, 1}, {2, 3}, {4, 5}},
		"all but one, and all": {{0, 1, 2, 3, 4, 5}, {0, 1, 2, 3, 4, 5, 6}},
	}
}

// badGroups are not good, each by one thing.
func badGroups() map[string][][]int {
	return map[string][][]int{
		"one too many":          allLists(7)[1:42],
		"one of one too many":   slices.Repeat([][]int{{6}}, 41),
		"an empty group":        {{}},
		"nil as a group":        {nil},
		"an empty one at last":  {{0}, {1}, {}},
		"an empty one at first": {{}, {0}},
		"one that falls":        {{1, 0}},
		"falls at the end":      {{0, 2, 1}},
		"two alike in one":      {{3, 3}},
		"alike at the end":      {{0, 1}, {0, 1, 1}},
		"a member below 0":      {{-1}},
		"below 0, then not":     {{-1, 0, 1}},
		"a member above":        {{7}},
		"above at the end":      {{0, 1}, {0, 7}},
		"far above":             {{0, 64}},
		"the greatest":          {{0, math.MaxInt}},
		"the least":             {{math.MinInt, 0}},
		"too many members":      {{0, 1, 2, 3, 4, 5, 6, 7}},
		"bad behind two apart":  {{0}, {1}, {2, 2}},
	}
}

// fewFailed are lists of failed ones, good and bad.
func fewFailed() [][]int {
	return append(allLists(7), []int{7}, []int{-1}, []int{1, 0}, []int{0, 0}, []int{0, 7}, []int{-1, 0}, steps(8, 0, 1))
}

func TestGroups(t *testing.T) {
	members := []int{-1, 0, 1, 2, 3, 4, 5, 6, 7, 8}
	for why, l := range someGroups() {
		if _, ok := impl.AllMeet(l); !ok {
			t.Error(why)
		}
		if _, ok := impl.IsCoterie(l); !ok {
			t.Error(why)
		}
		if _, ok := impl.Survives(l, nil); !ok {
			t.Error(why)
		}
		if _, ok := impl.BlocksOf(7, l); !ok {
			t.Error(why)
		}
		wantGroups(t, why, l, fewFailed(), members)
		for _, other := range someGroups() {
			wantDominates(t, why, l, other)
		}
	}
	for why, l := range badGroups() {
		if is, ok := impl.AllMeet(l); is || ok {
			t.Error(why, is, ok)
		}
		if is, ok := impl.IsCoterie(l); is || ok {
			t.Error(why, is, ok)
		}
		if is, ok := impl.Survives(l, nil); is || ok {
			t.Error(why, is, ok)
		}
		if b, ok := impl.BlocksOf(7, l); len(b) != 0 || ok {
			t.Error(why, b, ok)
		}
		for _, good := range [][][]int{nil, {{0}}} {
			if is, ok := impl.Dominates(l, good); is || ok {
				t.Error(why, is, ok)
			}
			if is, ok := impl.Dominates(good, l); is || ok {
				t.Error(why, is, ok)
			}
		}
		wantGroups(t, why, l, fewFailed(), members)
	}
}

// All choices of groups of few members.
func TestAllFewGroups(t *testing.T) {
	for members := 1; members <= 3; members++ {
		all := allGroups(members)
		for _, a := range all {
			wantGroups(t, "all", a, allLists(4), []int{members - 1, members, members + 1})
			if members < 3 {
				for _, b := range all {
					wantDominates(t, "all", a, b)
				}
			}
		}
	}
	coteries := allCoteries(4)
	for _, a := range coteries {
		wantGroups(t, "coterie", a, nil, []int{4, 7})
		for _, b := range coteries {
			wantDominates(t, "coteries", a, b)
		}
	}
	if len(coteries) < 50 {
		t.Error("too few coteries", len(coteries))
	}
}

func TestRandomGroups(t *testing.T) {
	r := newRandom()
	for range 1500 {
		members := 1 + r.IntN(7)
		a := randomGroups(r, members, 1+r.IntN(42))
		wantGroups(t, "random", a, allLists(members), []int{members, 7})
		wantDominates(t, "random", a, randomGroups(r, members, 4))
		wantDominates(t, "random coteries", randomCoterie(r, members), randomCoterie(r, members))
	}
}

func TestAllMeetAndIsCoterie(t *testing.T) {
	for _, c := range []struct {
		why     string
		l       [][]int
		meet    bool
		coterie bool
	}{
		{"no group", nil, true, true},
		{"one", [][]int{{3}}, true, true},
		{"two alike", [][]int{{0, 1}, {0, 1}}, true, false},
		{"one within another", [][]int{{0}, {0, 1}}, true, false},
		{"another within one", [][]int{{0, 1}, {0}}, true, false},
		{"within, not at the ends", [][]int{{0, 1}, {0, 2, 3}, {1, 2}, {0, 2}}, true, false},
		{"two that do not meet", [][]int{{0}, {1}}, false, false},
		{"the first and the last do not", [][]int{{0, 1}, {1, 2}, {2, 3}}, false, false},
		{"neither within the other", [][]int{{0, 1}, {1, 2}}, true, true},
		{"two of three", [][]int{{0, 1}, {0, 2}, {1, 2}}, true, true},
		{"in another order", [][]int{{1, 2}, {0, 1}, {0, 2}}, true, true},
		{"they meet at the last member", [][]int{{0, 6}, {5, 6}}, true, true},
		{"four of seven", listsOf(4, 7), true, true},
		{"three of seven", listsOf(3, 7), false, false},
		{"forty alike", slices.Repeat([][]int{{2}}, 40), true, false},
	} {
		if is, ok := impl.AllMeet(c.l); is != c.meet || !ok {
			t.Error(c.why, "AllMeet", is, ok)
		}
		if is, ok := impl.IsCoterie(c.l); is != c.coterie || !ok {
			t.Error(c.why, "IsCoterie", is, ok)
		}
	}
}

func TestDominates(t *testing.T) {
	two := [][]int{{0, 1}, {0, 2}, {1, 2}}
	three := listsOf(3, 4) // three of four
	wheel := [][]int{{0, 1}, {0, 2}, {0, 3}, {1, 2, 3}}
	for _, c := range []struct {
		why string
		a   [][]int
		b   [][]int
		is  bool
		ok  bool
	}{
		{"itself", two, two, false, true},
		{"itself in another order", two, [][]int{{1, 2}, {0, 1}, {0, 2}}, false, true},
		{"one that it dominates", two, [][]int{{0, 1}, {0, 2}}, true, true},
		{"the other way round", [][]int{{0, 1}, {0, 2}}, two, false, true},
		{"by smaller groups", wheel, three, true, true},
		{"by smaller groups, turned", three, wheel, false, true},
		{"by one alone", [][]int{{0}}, [][]int{{0, 1}, {0, 2}}, true, true},
		{"by one alone, turned", [][]int{{0, 1}, {0, 2}}, [][]int{{0}}, false, true},
		{"of others", [][]int{{0}}, two, false, true},
		{"of others, turned", two, [][]int{{0}}, false, true},
		{"only some have one of it", [][]int{{0, 1}}, [][]int{{0, 1, 2}, {0, 3}}, false, true},
		{"both none", nil, nil, false, true},
		{"one over none", [][]int{{0}}, nil, true, true},
		{"none over one", nil, [][]int{{0}}, false, true},
		{"a does not meet", [][]int{{0}, {1}}, [][]int{{0, 1}}, false, false},
		{"b does not meet", [][]int{{0}}, [][]int{{0, 1}, {2}}, false, false},
		{"a has one within another", [][]int{{0}, {0, 1}}, [][]int{{0, 1, 2}}, false, false},
		{"b has two alike", [][]int{{0}}, [][]int{{0, 1}, {0, 1}}, false, false},
		{"a is not good", [][]int{{1, 0}}, [][]int{{0, 1}}, false, false},
		{"b is not good", [][]int{{0}}, [][]int{{0, 7}}, false, false},
		{"neither is good", [][]int{{}}, [][]int{{}}, false, false},
	} {
		if is, ok := impl.Dominates(c.a, c.b); is != c.is || ok != c.ok {
			t.Error(c.why, is, ok)
		}
	}
}

// What dominates survives all that the other one does, and something more; what
// is not dominated by any has itself as its blocks.
func TestWhatDominatesSurvivesMore(t *testing.T) {
	coteries := allCoteries(3)
	for _, a := range coteries {
		dominated := false
		for _, b := range coteries {
			over, ok := impl.Dominates(a, b)
			under, _ := impl.Dominates(b, a)
			if !ok || over && under {
				t.Error("either one at most", a, b)
			}
			dominated = dominated || under
			more := false
			for _, failed := range allLists(3) {
				first, _ := impl.Survives(a, failed)
				second, _ := impl.Survives(b, failed)
				if over && second && !first {
					t.Error("less survives", a, b, failed)
				}
				more = more || first && !second
			}
			if over && !more {
				t.Error("no more survives", a, b)
			}
		}
		blocks, _ := impl.BlocksOf(3, a)
		if sameLists(blocks, a) == dominated {
			t.Error("blocks and what dominates", a, blocks, dominated)
		}
	}
}

func TestSurvives(t *testing.T) {
	two := [][]int{{0, 1}, {0, 2}, {1, 2}}
	for _, c := range []struct {
		why    string
		l      [][]int
		failed []int
		is     bool
		ok     bool
	}{
		{"no group", nil, nil, false, true},
		{"no group, one failed", nil, []int{0}, false, true},
		{"no failed one", two, nil, true, true},
		{"a list of no failed one", two, []int{}, true, true},
		{"one failed", two, []int{2}, true, true},
		{"the first failed", two, []int{0}, true, true},
		{"two failed", two, []int{0, 1}, false, true},
		{"the ends failed", two, []int{0, 2}, false, true},
		{"others failed", two, []int{3, 4, 5, 6}, true, true},
		{"all failed", two, steps(7, 0, 1), false, true},
		{"the last group", [][]int{{0}, {1}, {6}}, steps(6, 0, 1), true, true},
		{"failed ones fall", two, []int{4, 3}, false, false},
		{"failed ones alike", two, []int{3, 3}, false, false},
		{"falling at the end", two, []int{3, 5, 4}, false, false},
		{"below 0", two, []int{-1}, false, false},
		{"above", two, []int{7}, false, false},
		{"above at the end", two, []int{5, 6, 7}, false, false},
		{"no group, bad failed ones", nil, []int{3, 3}, false, false},
		{"bad groups", [][]int{{0, 0}}, nil, false, false},
	} {
		if is, ok := impl.Survives(c.l, c.failed); is != c.is || ok != c.ok {
			t.Error(c.why, is, ok)
		}
	}
}

func TestBlocksOf(t *testing.T) {
	two := [][]int{{0, 1}, {0, 2}, {1, 2}}
	for _, c := range []struct {
		why     string
		members int
		l       [][]int
		want    [][]int
		ok      bool
	}{
		{"no group: none is needed", 3, nil, [][]int{{}}, true},
		{"no group, one member", 1, nil, [][]int{{}}, true},
		{"no group, all members", 7, [][]int{}, [][]int{{}}, true},
		{"one member", 1, [][]int{{0}}, [][]int{{0}}, true},
		{"two of three", 3, two, two, true},
		{"more members than groups have", 7, two, two, true},
		{"members too few", 2, two, nil, false},
		{"one member too few", 6, [][]int{{0}, {6}}, nil, false},
		{"0 members", 0, [][]int{{0}}, nil, false},
		{"0 members, no group", 0, nil, nil, false},
		{"fewer than 0", -1, nil, nil, false},
		{"one member too many", 8, two, nil, false},
		{"many too many", math.MaxInt, nil, nil, false},
		{"apart: one of each", 4, [][]int{{0, 1}, {2, 3}}, [][]int{{0, 2}, {1, 2}, {0, 3}, {1, 3}}, true},
		{"all of one each", 3, [][]int{{0}, {1}, {2}}, [][]int{{0, 1, 2}}, true},
		{"one has all members", 3, [][]int{{0, 1, 2}}, [][]int{{0}, {1}, {2}}, true},
		{"one within another", 3, [][]int{{0}, {0, 1}}, [][]int{{0}}, true},
		{"two alike", 3, [][]int{{1, 2}, {1, 2}}, [][]int{{1}, {2}}, true},
		{"one member in all", 4, [][]int{{0, 1}, {0, 2}, {0, 3}}, [][]int{{0}, {1, 2, 3}}, true},
		{"the last member", 7, [][]int{{6}}, [][]int{{6}}, true},
		{"as many as can be", 7, listsOf(4, 7), listsOf(4, 7), true},
		{"as many, of three", 7, listsOf(5, 7), listsOf(3, 7), true},
	} {
		if l, ok := impl.BlocksOf(c.members, c.l); ok != c.ok || !sameLists(l, c.want) {
			t.Error(c.why, l, ok)
		}
	}
}

// leastGroups are those that have all of no other one, each once, as numbers
// with the bits of their members rise.
func leastGroups(members int, l [][]int) [][]int {
	return plainLeast(members, func(some []int) bool {
		return slices.ContainsFunc(l, func(g []int) bool { return isPartOf(g, some) })
	})
}

func TestBlocksMeetEachGroupAndNoLessDoes(t *testing.T) {
	r := newRandom()
	most := 0
	for range 1500 {
		members := 1 + r.IntN(7)
		l := randomGroups(r, members, 1+r.IntN(40))
		blocks, ok := impl.BlocksOf(members, l)
		if !ok {
			t.Fatal(members, l)
		}
		most = max(most, len(blocks))
		eachOne(t, "blocks", blocks, func(some []int) bool { return meetsAll(some, l) })
		// No group survives just where a block failed.
		for _, failed := range allLists(members) {
			is, ok := impl.Survives(l, failed)
			blocked := slices.ContainsFunc(blocks, func(b []int) bool { return isPartOf(b, failed) })
			if !ok || is == blocked {
				t.Error("survives where it is blocked", l, failed, is)
			}
		}
		if len(l) == 0 {
			continue
		}
		// What blocks the blocks are the least groups.
		if back, ok := impl.BlocksOf(members, blocks); !ok || !sameLists(back, leastGroups(members, l)) {
			t.Error("blocks of blocks", members, l, blocks, back, ok)
		}
	}
	if most < 10 {
		t.Error("too few blocks", most)
	}
}

// Of seven members there are never more than 35 lists of which none has all of
// another one, so that the limit of blocks is not gone beyond: groups with the
// most blocks are those of four and of five members.
func TestBlocksAreNeverTooMany(t *testing.T) {
	for many := 1; many <= 7; many++ {
		all := listsOf(many, 7)
		for from := range all {
			l := all[from:]
			blocks, ok := impl.BlocksOf(7, l)
			if !ok || len(blocks) > 35 || len(blocks) == 0 {
				t.Error(many, from, len(blocks), ok)
			}
		}
	}
}

func TestGridQuorums(t *testing.T) {
	for _, c := range []struct {
		rows    int
		columns int
		want    [][]int
	}{
		{1, 1, [][]int{{0}}},
		{1, 2, [][]int{{0, 1}, {0, 1}}},
		{1, 3, [][]int{{0, 1, 2}, {0, 1, 2}, {0, 1, 2}}},
		{2, 1, [][]int{{0, 1}, {0, 1}}},
		{2, 2, [][]int{{0, 1, 2}, {0, 1, 3}, {0, 2, 3}, {1, 2, 3}}},
		{2, 3, [][]int{{0, 1, 2, 3}, {0, 1, 2, 4}, {0, 1, 2, 5}, {0, 3, 4, 5}, {1, 3, 4, 5}, {2, 3, 4, 5}}},
		{3, 1, [][]int{{0, 1, 2}, {0, 1, 2}, {0, 1, 2}}},
		{3, 2, [][]int{{0, 1, 2, 4}, {0, 1, 3, 5}, {0, 2, 3, 4}, {1, 2, 3, 5}, {0, 2, 4, 5}, {1, 3, 4, 5}}},
	} {
		l, ok := impl.GridQuorums(c.rows, c.columns)
		if !ok || !sameLists(l, c.want) {
			t.Error(c.rows, c.columns, l, ok)
		}
		if meet, ok := impl.AllMeet(l); !meet || !ok {
			t.Error("two of a grid do not meet", c.rows, c.columns)
		}
	}
	if l, ok := impl.GridQuorums(3, 3); len(l) != 0 || ok {
		t.Error("nine members are too many", l, ok)
	}
	for rows := -1; rows <= 8; rows++ {
		for columns := -1; columns <= 8; columns++ {
			wantGrid(t, rows, columns)
		}
	}
}

func wantGrid(t *testing.T, rows, columns int) {
	t.Helper()
	want, wanted := plainGrid(rows, columns)
	if l, ok := impl.GridQuorums(rows, columns); ok != wanted || !sameLists(l, want) {
		t.Error("GridQuorums", rows, columns, l, ok)
	}
}

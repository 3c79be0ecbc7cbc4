package tests

import (
	"slices"
	"testing"

	"loop.example/g00361/impl"
)

// Promise 7: one event is ahead of another just if its vector is less, and its
// scalar is less then.

// wantEvents holds all answers of events against what the plain words tell, with
// each two of these places.
func wantEvents(t *testing.T, why string, procs int, l []impl.Event, places []int) {
	t.Helper()
	good := plainEventsGood(procs, l)
	if got := impl.GoodEvents(procs, l); got != good {
		t.Errorf("%s: GoodEvents %d %v: %v", why, procs, l, got)
	}
	var ahead [][]bool
	if good {
		ahead = plainAhead(l)
	}
	wantClocks(t, why, procs, l, good, ahead)
	if got, ok := impl.Concurrent(procs, l); ok != good || got != plainConcurrent(ahead) {
		t.Errorf("%s: Concurrent %d %v: %v %v", why, procs, l, got, ok)
	}
	for _, a := range places {
		in := good && a >= 0 && a < len(l)
		var past []int
		if in {
			past = plainPast(ahead, a)
		}
		if got, ok := impl.CausalPast(procs, l, a); ok != in || !slices.Equal(got, past) {
			t.Errorf("%s: CausalPast %d %v %d: %v %v", why, procs, l, a, got, ok)
		}
		for _, b := range places {
			both := in && b >= 0 && b < len(l)
			want := both && ahead[a][b]
			if got, ok := impl.HappensBefore(procs, l, a, b); got != want || ok != both {
				t.Errorf("%s: HappensBefore %d %v %d %d: %v %v", why, procs, l, a, b, got, ok)
			}
		}
	}
}

// wantClocks does so of the clocks alone.
func wantClocks(t *testing.T, why string, procs int, l []impl.Event, good bool, ahead [][]bool) {
	t.Helper()
	var scalars []int
	var vectors [][]int
	if good {
		scalars, vectors = plainScalars(ahead), plainVectors(procs, l, ahead)
	}
	if got, ok := impl.ScalarClocks(procs, l); ok != good || !slices.Equal(got, scalars) {
		t.Errorf("%s: ScalarClocks %d %v: %v %v", why, procs, l, got, ok)
	}
	if got, ok := impl.VectorClocks(procs, l); ok != good || !sameLists(got, vectors) {
		t.Errorf("%s: VectorClocks %d %v: %v %v", why, procs, l, got, ok)
	}
}

// wantPair does so of two clocks, either way round.
func wantPair(t *testing.T, why string, a, b []int) {
	t.Helper()
	for range 2 {
		join, wanted := plainJoin(a, b)
		if got, ok := impl.JoinClocks(a, b); ok != wanted || !slices.Equal(got, join) {
			t.Errorf("%s: JoinClocks %v %v: %v %v", why, a, b, got, ok)
		}
		want, wanted := plainCompare(a, b)
		if got, ok := impl.CompareClocks(a, b); got != want || ok != wanted {
			t.Errorf("%s: CompareClocks %v %v: %v %v", why, a, b, got, ok)
		}
		a, b = b, a
	}
}

func TestTheNamedNumbersOfClocks(t *testing.T) {
	got := []int{impl.MaxProcs, impl.MaxEvents, impl.EvLocal, impl.EvSend, impl.EvTake}
	if !slices.Equal(got, []int{5, 24, 1, 2, 3}) {
		t.Error(got)
	}
}

// aWorld is three processes of which one message reaches two others over a
// second one.
func aWorld() []impl.Event {
	return events(inside(0), inside(2), sends(0, 7), inside(1), takes(1, 7), sends(1, 3), inside(0), takes(2, 3), inside(2))
}

// roundTrip is a message that comes back to its sender by another one.
func roundTrip() []impl.Event {
	return events(sends(0, 1), takes(1, 1), sends(1, 2), takes(0, 2), inside(1))
}

// manySends are the messages from 1 on, each sent by the process 0.
func manySends(many int) []impl.Event {
	var l []impl.Event
	for i := range many {
		l = append(l, sends(0, i+1))
	}
	return l
}

// backAndForth are as many events as may be, of two processes that answer each
// other, by messages whose numbers fall.
func backAndForth() []impl.Event {
	var l []impl.Event
	for i := range 12 {
		l = append(l, sends(i%2, 24-i), takes(1-i%2, 24-i))
	}
	return l
}

// someEvents are good, of three processes.
func someEvents() map[string][]impl.Event {
	return map[string][]impl.Event{
		"none":                      nil,
		"a list of none":            {},
		"one":                       events(inside(0)),
		"one of the last process":   events(inside(2)),
		"a world":                   aWorld(),
		"a round trip":              roundTrip(),
		"a message and its take":    events(sends(0, 1), takes(1, 1)),
		"the last message":          events(sends(1, 24), takes(0, 24)),
		"never taken":               events(sends(0, 1), sends(0, 2), inside(1)),
		"taken in another order":    events(sends(0, 1), sends(0, 2), takes(1, 2), takes(1, 1)),
		"taken by two":              events(sends(0, 1), sends(0, 2), takes(1, 2), takes(2, 1)),
		"crossing":                  events(sends(0, 1), sends(1, 2), takes(0, 2), takes(1, 1)),
		"as many as may":            slices.Repeat(events(inside(0), inside(1), inside(2)), 8),
		"as many messages as may":   manySends(24),
		"back and forth, all of it": backAndForth(),
	}
}

// badEvents are not good for three processes, each by one thing.
func badEvents() map[string][]impl.Event {
	return map[string][]impl.Event{
		"a Proc below 0":              events(impl.Event{Proc: -1, Kind: 1}),
		"a Proc too great":            events(inside(3)),
		"a Proc too great at the end": events(inside(0), sends(1, 1), takes(3, 1)),
		"no Kind":                     events(impl.Event{}),
		"a Kind below 0":              events(impl.Event{Kind: -1}),
		"a Kind above":                events(impl.Event{Kind: 4}),
		"a Kind above with a message": events(sends(0, 1), impl.Event{Proc: 1, Kind: 4, Msg: 1}),
		"local with a Msg":            events(impl.Event{Kind: 1, Msg: 1}),
		"local with a Msg below 0":    events(impl.Event{Kind: 1, Msg: -1}),
		"local with one that is sent": events(sends(0, 1), impl.Event{Proc: 1, Kind: 1, Msg: 1}),
		"sent as 0":                   events(sends(0, 0)),
		"sent as below 0":             events(sends(0, -1)),
		"sent as 25":                  events(sends(0, 25)),
		"sent and taken as 0":         events(sends(0, 0), takes(1, 0)),
		"sent and taken as 25":        events(sends(0, 25), takes(1, 25)),
		"sent twice":                  events(sends(0, 1), sends(0, 1)),
		"sent twice by two":           events(sends(0, 1), sends(1, 1)),
		"sent again when taken":       events(sends(0, 1), takes(1, 1), sends(0, 1)),
		"taken, not sent":             events(takes(1, 1)),
		"taken as 0, not sent":        events(takes(1, 0)),
		"taken as 0 behind a local":   events(inside(0), takes(1, 0)),
		"another one is taken":        events(sends(0, 1), takes(1, 2)),
		"taken, then sent":            events(takes(1, 1), sends(0, 1)),
		"taken by its own":            events(sends(0, 1), takes(0, 1)),
		"taken twice":                 events(sends(0, 1), takes(1, 1), takes(1, 1)),
		"taken twice by two":          events(sends(0, 1), takes(1, 1), takes(2, 1)),
		"one too many":                append(slices.Repeat(events(inside(0), inside(1), inside(2)), 8), inside(0)),
		"a bad one at first":          events(takes(1, 1), inside(0), inside(1)),
		"a bad one at the end":        append(backAndForth()[:23], inside(3)),
	}
}

func TestGoodEvents(t *testing.T) {
	places := steps(27, -1, 1)
	for why, l := range someEvents() {
		if !impl.GoodEvents(3, l) {
			t.Error(why)
		}
		for procs := -1; procs <= 7; procs++ {
			wantEvents(t, why, procs, l, places)
		}
	}
}

func TestBadEvents(t *testing.T) {
	for why, l := range badEvents() {
		if impl.GoodEvents(3, l) {
			t.Error(why)
		}
		if s, ok := impl.ScalarClocks(3, l); len(s) != 0 || ok {
			t.Error(why, s, ok)
		}
		if v, ok := impl.VectorClocks(3, l); len(v) != 0 || ok {
			t.Error(why, v, ok)
		}
		if is, ok := impl.HappensBefore(3, l, 0, len(l)-1); is || ok {
			t.Error(why, is, ok)
		}
		if p, ok := impl.CausalPast(3, l, len(l)-1); len(p) != 0 || ok {
			t.Error(why, p, ok)
		}
		if n, ok := impl.Concurrent(3, l); n != 0 || ok {
			t.Error(why, n, ok)
		}
		for procs := -1; procs <= 7; procs++ {
			wantEvents(t, why, procs, l, []int{-1, 0, 1, len(l) - 1, len(l)})
		}
	}
}

func TestHowManyProcesses(t *testing.T) {
	for _, procs := range []int{-1, 0, 1, 2, 5, 6} {
		good := procs >= 1 && procs <= 5
		if impl.GoodEvents(procs, nil) != good {
			t.Error(procs, "no event")
		}
		if impl.GoodEvents(procs, events(inside(procs-1))) != good {
			t.Error(procs, "the last process")
		}
		if impl.GoodEvents(procs, events(inside(procs))) || impl.GoodEvents(procs, events(inside(-1))) {
			t.Error(procs, "a process that is not there")
		}
		if v, ok := impl.VectorClocks(procs, nil); ok != good || len(v) != 0 {
			t.Error(procs, v, ok)
		}
		if s, ok := impl.ScalarClocks(procs, nil); ok != good || len(s) != 0 {
			t.Error(procs, s, ok)
		}
		if n, ok := impl.Concurrent(procs, nil); ok != good || n != 0 {
			t.Error(procs, n, ok)
		}
	}
}

// All lists of two events, whatever their fields are, as far as these are near to
// what is good.
func TestAllTwoEvents(t *testing.T) {
	var all []impl.Event
	for proc := -1; proc <= 2; proc++ {
		for kind := 0; kind <= 4; kind++ {
			for _, msg := range []int{-1, 0, 1, 2, 24, 25} {
				all = append(all, impl.Event{Proc: proc, Kind: kind, Msg: msg})
			}
		}
	}
	places := steps(4, -1, 1)
	for _, a := range all {
		wantEvents(t, "one", 2, events(a), places)
		for _, b := range all {
			wantEvents(t, "two", 2, events(a, b), places)
			wantEvents(t, "two behind a message", 2, events(sends(0, 1), a, b), places)
		}
	}
}

func TestAllFewEvents(t *testing.T) {
	for _, c := range []struct{ procs, most int }{{1, 8}, {2, 6}, {3, 5}, {5, 4}} {
		for _, l := range allEvents(c.procs, c.most) {
			wantEvents(t, "few", c.procs, l, steps(len(l)+2, -1, 1))
		}
	}
}

func TestRandomEvents(t *testing.T) {
	r := newRandom()
	for i := range 400 {
		procs := 1 + i%5
		l := randomEvents(r, procs)
		wantEvents(t, "random", procs, l, steps(len(l)+2, -1, 1))
	}
}

// Good events with one field of one of them changed.
func TestEventsNearToGoodOnes(t *testing.T) {
	r := newRandom()
	for i := range 3000 {
		procs := 1 + i%5
		l := randomEvents(r, procs)
		if len(l) == 0 {
			continue
		}
		at := r.IntN(len(l))
		switch i % 4 {
		case 0:
			l[at].Proc = r.IntN(procs+2) - 1
		case 1:
			l[at].Kind = r.IntN(5)
		case 2:
			l[at].Msg = r.IntN(27) - 1
		default:
			l[at] = l[r.IntN(len(l))]
		}
		wantEvents(t, "near", procs, l, []int{-1, 0, at, len(l) - 1, len(l)})
	}
}

func TestHappensBefore(t *testing.T) {
	for _, c := range []struct {
		why  string
		l    []impl.Event
		a, b int
		is   bool
		ok   bool
	}{
		{"itself", aWorld(), 4, 4, false, true},
		{"the first itself", aWorld(), 0, 0, false, true},
		{"one process", aWorld(), 0, 2, true, true},
		{"one process, not the next", aWorld(), 0, 6, true, true},
		{"one process, the other way", aWorld(), 6, 0, false, true},
		{"a message", aWorld(), 2, 4, true, true},
		{"a message, the other way", aWorld(), 4, 2, false, true},
		{"a chain of two messages", aWorld(), 2, 7, true, true},
		{"from ahead of it to behind it", aWorld(), 0, 8, true, true},
		{"the chain, the other way", aWorld(), 8, 0, false, true},
		{"behind what was sent", aWorld(), 6, 8, false, true},
		{"ahead of what is taken", aWorld(), 0, 3, false, true},
		{"neither", aWorld(), 1, 4, false, true},
		{"neither, the other way", aWorld(), 4, 1, false, true},
		{"neither with one message", aWorld(), 3, 6, false, true},
		{"a round trip", roundTrip(), 0, 3, true, true},
		{"what came behind the answer", roundTrip(), 3, 4, false, true},
		{"all of a long chain", backAndForth(), 0, 23, true, true},
		{"two sends of one process, taken turned", someEvents()["taken in another order"], 0, 2, true, true},
		{"crossing", someEvents()["crossing"], 0, 1, false, true},
		{"crossing, taken", someEvents()["crossing"], 0, 2, true, true},
		{"crossing, both taken", someEvents()["crossing"], 2, 3, false, true},
		{"the first below", aWorld(), -1, 3, false, false},
		{"the second below", aWorld(), 3, -1, false, false},
		{"the last", aWorld(), 1, 8, true, true},
		{"the first beyond", aWorld(), 9, 3, false, false},
		{"the second beyond", aWorld(), 3, 9, false, false},
		{"both beyond", aWorld(), 9, 9, false, false},
		{"of none", nil, 0, 0, false, false},
	} {
		if is, ok := impl.HappensBefore(3, c.l, c.a, c.b); is != c.is || ok != c.ok {
			t.Error(c.why, is, ok)
		}
	}
}

func TestCausalPast(t *testing.T) {
	for _, c := range []struct {
		why  string
		l    []impl.Event
		at   int
		past []int
		ok   bool
	}{
		{"a first one", aWorld(), 0, nil, true},
		{"a first one of another process", aWorld(), 3, nil, true},
		{"behind one of its own", aWorld(), 2, []int{0}, true},
		{"behind a message", aWorld(), 4, []int{0, 2, 3}, true},
		{"behind two messages", aWorld(), 7, []int{0, 1, 2, 3, 4, 5}, true},
		{"behind all but one", aWorld(), 8, []int{0, 1, 2, 3, 4, 5, 7}, true},
		{"behind what it sent", aWorld(), 6, []int{0, 2}, true},
		{"a round trip", roundTrip(), 3, []int{0, 1, 2}, true},
		{"a take that is its first", someEvents()["a message and its take"], 1, []int{0}, true},
		{"a long chain", backAndForth(), 23, steps(23, 0, 1), true},
		{"below", aWorld(), -1, nil, false},
		{"beyond", aWorld(), 9, nil, false},
		{"of none", nil, 0, nil, false},
	} {
		if past, ok := impl.CausalPast(3, c.l, c.at); !slices.Equal(past, c.past) || ok != c.ok {
			t.Error(c.why, past, ok)
		}
	}
}

func TestConcurrent(t *testing.T) {
	for _, c := range []struct {
		why   string
		procs int
		l     []impl.Event
		many  int
	}{
		{"no event", 3, nil, 0},
		{"one event", 3, events(inside(1)), 0},
		{"one process alone", 1, slices.Repeat(events(inside(0)), 24), 0},
		{"one of several processes alone", 5, manySends(24), 0},
		{"two processes without messages", 2, events(inside(0), inside(1), inside(0), inside(1), inside(1)), 6},
		{"three processes without messages", 3, slices.Repeat(events(inside(0), inside(1), inside(2)), 8), 192},
		{"a message and its take", 2, events(sends(0, 1), takes(1, 1)), 0},
		{"a message that is not taken", 2, events(sends(0, 1), inside(1)), 1},
		{"a round trip", 2, roundTrip(), 1},
		{"a world", 3, aWorld(), 13},
		{"back and forth", 2, backAndForth(), 0},
		{"crossing", 2, someEvents()["crossing"], 2},
	} {
		if many, ok := impl.Concurrent(c.procs, c.l); many != c.many || !ok {
			t.Error(c.why, many, ok)
		}
	}
}

func TestScalarClocks(t *testing.T) {
	for _, c := range []struct {
		why    string
		l      []impl.Event
		clocks []int
	}{
		{"none", nil, nil},
		{"one process", events(inside(0), sends(0, 1), inside(0)), []int{1, 2, 3}},
		{"each process its own", events(inside(0), inside(1), inside(0), inside(2)), []int{1, 1, 2, 1}},
		{"the send's is less", events(sends(0, 1), inside(1), inside(1), takes(1, 1), inside(1)), []int{1, 1, 2, 3, 4}},
		{"the send's is the same", events(inside(0), sends(0, 1), inside(1), inside(1), takes(1, 1), inside(1)), []int{1, 2, 1, 2, 3, 4}},
		{"the send's is greater by one", events(inside(0), sends(0, 1), inside(1), takes(1, 1), inside(1)), []int{1, 2, 1, 3, 4}},
		{"the send's is greater by more", events(inside(0), inside(0), sends(0, 1), inside(1), takes(1, 1), inside(1)), []int{1, 2, 3, 1, 4, 5}},
		{"a take that is the first", events(inside(0), sends(0, 1), takes(1, 1), inside(1)), []int{1, 2, 3, 4}},
		{"what came behind the send", events(sends(0, 1), inside(0), inside(0), takes(1, 1)), []int{1, 2, 3, 2}},
		{"a world", aWorld(), []int{1, 1, 2, 1, 3, 4, 3, 5, 6}},
		{"back and forth", backAndForth(), []int{1, 2, 3, 4, 5, 6, 7, 8, 9, 10, 11, 12, 13, 14, 15, 16, 17, 18, 19, 20, 21, 22, 23, 24}},
	} {
		if clocks, ok := impl.ScalarClocks(3, c.l); !slices.Equal(clocks, c.clocks) || !ok {
			t.Error(c.why, clocks, ok)
		}
	}
}

func TestVectorClocks(t *testing.T) {
	for _, c := range []struct {
		why    string
		procs  int
		l      []impl.Event
		clocks [][]int
	}{
		{"none", 3, nil, nil},
		{"one process", 1, events(inside(0), inside(0)), [][]int{{1}, {2}}},
		{"processes without events", 5, events(inside(1), inside(3), inside(1)), [][]int{{0, 1, 0, 0, 0}, {0, 0, 0, 1, 0}, {0, 2, 0, 0, 0}}},
		{"a take that is the first", 3, events(inside(0), sends(0, 1), takes(2, 1)), [][]int{{1, 0, 0}, {2, 0, 0}, {2, 0, 1}}},
		{"joined, then one more", 2, roundTrip(), [][]int{{1, 0}, {1, 1}, {1, 2}, {2, 2}, {1, 3}}},
		{"one message behind the other", 2, events(sends(0, 1), sends(0, 2), takes(1, 2), takes(1, 1)), [][]int{{1, 0}, {2, 0}, {2, 1}, {2, 2}}},
		{"a world", 3, aWorld(), [][]int{{1, 0, 0}, {0, 0, 1}, {2, 0, 0}, {0, 1, 0}, {2, 2, 0}, {2, 3, 0}, {3, 0, 0}, {2, 3, 2}, {2, 3, 3}}},
		{"a world with one process more", 4, aWorld()[:3], [][]int{{1, 0, 0, 0}, {0, 0, 1, 0}, {2, 0, 0, 0}}},
	} {
		if clocks, ok := impl.VectorClocks(c.procs, c.l); !sameLists(clocks, c.clocks) || !ok {
			t.Error(c.why, clocks, ok)
		}
	}
}

// wantAheadByClocks asks of any two events that the first one is ahead just if
// its vector is less, and that its scalar is less then.
func wantAheadByClocks(t *testing.T, procs int, l []impl.Event) {
	t.Helper()
	scalars, scalarsGood := impl.ScalarClocks(procs, l)
	vectors, vectorsGood := impl.VectorClocks(procs, l)
	if !scalarsGood || !vectorsGood || len(scalars) != len(l) || len(vectors) != len(l) {
		t.Fatal(procs, l, scalars, vectors)
	}
	neither := 0
	for a := range l {
		past, _ := impl.CausalPast(procs, l, a)
		for b := range l {
			is, good := impl.HappensBefore(procs, l, a, b)
			less, ok := impl.CompareClocks(vectors[a], vectors[b])
			if !good || !ok || is != (less == -1) || (less == 0) != (a == b) {
				t.Error(procs, l, a, b, is, less)
			}
			if is && scalars[a] >= scalars[b] {
				t.Error(procs, l, a, b, scalars)
			}
			if slices.Contains(past, b) != (less == 1) {
				t.Error(procs, l, a, b, past)
			}
			if a < b && less == 2 {
				neither++
			}
		}
	}
	if many, ok := impl.Concurrent(procs, l); many != neither || !ok {
		t.Error(procs, l, many, neither)
	}
}

func TestAheadJustIfTheVectorIsLess(t *testing.T) {
	for _, l := range someEvents() {
		wantAheadByClocks(t, 3, l)
		wantAheadByClocks(t, 5, l)
	}
	for _, c := range []struct{ procs, most int }{{2, 5}, {3, 4}} {
		for _, l := range allEvents(c.procs, c.most) {
			wantAheadByClocks(t, c.procs, l)
		}
	}
	r := newRandom()
	for i := range 200 {
		wantAheadByClocks(t, 1+i%5, randomEvents(r, 1+i%5))
	}
}

// What comes later changes nothing of the clocks of what was.
func TestClocksDoNotHangOnWhatFollows(t *testing.T) {
	r := newRandom()
	for range 100 {
		l := randomEvents(r, 4)
		scalars, _ := impl.ScalarClocks(4, l)
		vectors, _ := impl.VectorClocks(4, l)
		for many := range l {
			s, ok := impl.ScalarClocks(4, l[:many])
			if !ok || !slices.Equal(s, scalars[:many]) {
				t.Error(l, many, s, ok)
			}
			v, ok := impl.VectorClocks(4, l[:many])
			if !ok || !sameLists(v, vectors[:many]) {
				t.Error(l, many, v, ok)
			}
		}
	}
}

func TestJoinClocks(t *testing.T) {
	for _, c := range []struct {
		why        string
		a, b, join []int
		ok         bool
	}{
		{"one number", []int{3}, []int{4}, []int{4}, true},
		{"alike", []int{3, 0}, []int{3, 0}, []int{3, 0}, true},
		{"noughts", []int{0}, []int{0}, []int{0}, true},
		{"place by place", []int{1, 5, 2}, []int{2, 4, 2}, []int{2, 5, 2}, true},
		{"as many as may", []int{0, 1, 2, 3, 1000}, []int{1000, 3, 2, 1, 0}, []int{1000, 3, 2, 3, 1000}, true},
		{"none", nil, nil, nil, false},
		{"lists of none", []int{}, []int{}, nil, false},
		{"one too many", make([]int, 6), make([]int, 6), nil, false},
		{"none and one", nil, []int{1}, nil, false},
		{"unlike lengths", []int{1}, []int{1, 2}, nil, false},
		{"as many and one more", make([]int, 5), make([]int, 6), nil, false},
		{"below 0", []int{-1}, []int{1}, nil, false},
		{"below 0 at the end", []int{1, 1}, []int{1, -1}, nil, false},
		{"just 1000", []int{1000}, []int{0}, []int{1000}, true},
		{"1001", []int{1001}, []int{0}, nil, false},
		{"1001 at the end", []int{0, 0}, []int{0, 1001}, nil, false},
	} {
		for range 2 {
			if join, ok := impl.JoinClocks(c.a, c.b); !slices.Equal(join, c.join) || ok != c.ok {
				t.Error(c.why, join, ok)
			}
			if _, ok := impl.CompareClocks(c.a, c.b); ok != c.ok {
				t.Error(c.why, "compared", ok)
			}
			c.a, c.b = c.b, c.a
		}
	}
}

func TestCompareClocks(t *testing.T) {
	for _, c := range []struct {
		why  string
		a, b []int
		told int
	}{
		{"alike", []int{2, 3}, []int{2, 3}, 0},
		{"noughts", []int{0}, []int{0}, 0},
		{"less in all", []int{1, 2}, []int{2, 3}, -1},
		{"less in the first", []int{1, 3, 3}, []int{2, 3, 3}, -1},
		{"less in the last", []int{2, 3, 2}, []int{2, 3, 3}, -1},
		{"less in one of five", []int{0, 0, 0, 999, 0}, []int{0, 0, 0, 1000, 0}, -1},
		{"greater in all", []int{2, 3}, []int{1, 2}, 1},
		{"greater in one", []int{2, 4}, []int{2, 3}, 1},
		{"greater by much", []int{1000, 0}, []int{0, 0}, 1},
		{"neither", []int{1, 2}, []int{2, 1}, 2},
		{"neither, unlike by much", []int{1000, 0, 5}, []int{0, 1, 5}, 2},
		{"neither, in the end", []int{1, 1, 1, 1, 2}, []int{1, 1, 1, 2, 1}, 2},
		{"neither, less in more", []int{0, 0, 0, 0, 1}, []int{1, 1, 1, 1, 0}, 2},
	} {
		if told, ok := impl.CompareClocks(c.a, c.b); told != c.told || !ok {
			t.Error(c.why, told, ok)
		}
		back := map[int]int{0: 0, -1: 1, 1: -1, 2: 2}[c.told]
		if told, ok := impl.CompareClocks(c.b, c.a); told != back || !ok {
			t.Error(c.why, "the other way", told, ok)
		}
	}
	for why, c := range map[string][2][]int{
		"none":             {nil, nil},
		"lists of none":    {{}, {}},
		"one too many":     {make([]int, 6), make([]int, 6)},
		"unlike lengths":   {{1, 2}, {1, 2, 3}},
		"below 0":          {{-1, 0}, {0, 0}},
		"below 0 in both":  {{-1}, {-1}},
		"1001":             {{0, 1001}, {0, 1}},
		"1001 in both":     {{1001}, {1001}},
		"none and noughts": {nil, {0}},
	} {
		wantPair(t, why, c[0], c[1])
		if told, ok := impl.CompareClocks(c[0], c[1]); told != 0 || ok {
			t.Error(why, told, ok)
		}
	}
}

// allClocks are all lists of so many of the numbers.
func allClocks(many int, numbers ...int) [][]int {
	all := [][]int{nil}
	for range many {
		var next [][]int
		for _, l := range all {
			for _, n := range numbers {
				next = append(next, append(slices.Clone(l), n))
			}
		}
		all = next
	}
	return all
}

func TestAllFewClocks(t *testing.T) {
	all := [][]int{make([]int, 4), make([]int, 5), make([]int, 6), make([]int, 7)}
	for many := range 3 {
		all = append(all, allClocks(many, -1, 0, 1, 999, 1000, 1001)...)
	}
	all = append(all, allClocks(3, 0, 1, 2)...)
	for _, a := range all {
		for _, b := range all {
			wantPair(t, "few", a, b)
		}
	}
}

// The join of two is the least that is not less than either.
func TestJoinIsTheLeastAboveBoth(t *testing.T) {
	all := allClocks(3, 0, 1, 2)
	for _, a := range all {
		for _, b := range all {
			join, _ := impl.JoinClocks(a, b)
			for _, c := range all {
				overA, _ := impl.CompareClocks(a, c)
				overB, _ := impl.CompareClocks(b, c)
				overJoin, ok := impl.CompareClocks(join, c)
				if !ok || (overJoin <= 0) != (overA <= 0 && overB <= 0) {
					t.Error(a, b, c, join)
				}
			}
		}
	}
}

func TestRandomClocks(t *testing.T) {
	r := newRandom()
	for i := range 5000 {
		a := make([]int, 1+i%5)
		for k := range a {
			a[k] = r.IntN(1001)
		}
		b := slices.Clone(a)
		for range r.IntN(4) {
			b[r.IntN(len(b))] = r.IntN(1003) - 1
		}
		wantPair(t, "random", a, b)
	}
}

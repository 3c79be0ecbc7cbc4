package tests

import (
	"slices"
	"testing"

	"loop.example/g00361/impl"
)

// Promise 11: what was committed is kept, whoever leads.

// rowsBegin tells whether a log has these rows as its first ones.
func rowsBegin(l, first []impl.Row) bool {
	return len(l) >= len(first) && slices.Equal(l[:len(first)], first)
}

// wantInStep asks that all who may come to lead have what is committed.
func wantInStep(t *testing.T, g impl.Group) {
	t.Helper()
	committed, ok := impl.CommittedRows(g)
	if !ok || len(committed) != g.High {
		t.Error("not good", g)
	}
	for _, k := range g.InStep {
		if !rowsBegin(g.Replicas[k].Log, committed) {
			t.Error("one in step does not have what is committed", k, g)
		}
	}
}

// wantRowsKept asks of a step that was done that what was committed is so still, and
// that it is so whoever of those in step is made to lead.
func wantRowsKept(t *testing.T, before, after impl.Group, x impl.IsrStep) {
	t.Helper()
	then, _ := impl.CommittedRows(before)
	now, ok := impl.CommittedRows(after)
	if !ok || !rowsBegin(now, then) {
		t.Error("what was committed is not", before, x, after)
	}
	if x.Kind != impl.IsRaise && len(now) != len(then) {
		t.Error("more is committed", before, x, after)
	}
	for _, k := range after.InStep {
		led, ok := impl.StepGroup(after, isElect(k))
		if ok == (after.Epoch == 100) {
			t.Error("led or not", k, after)
		}
		if kept, good := impl.CommittedRows(led); ok && (!good || !slices.Equal(kept, now)) {
			t.Error("another leader does not have it", k, after, led)
		}
	}
}

// isrKey is another one for each group.
func isrKey(g impl.Group) string {
	var key []byte
	put := func(numbers ...int) {
		for _, n := range numbers {
			key = append(key, byte(n+1))
		}
	}
	put(g.Epoch, g.Leader, g.High, len(g.InStep))
	put(g.InStep...)
	for _, r := range g.Replicas {
		put(r.Epoch, r.Known, len(r.Log))
		for _, row := range r.Log {
			put(row.Epoch, row.Value)
		}
	}
	return string(key)
}

type isrLimits struct {
	replicas, epoch, long int
}

// fewIsrSteps are the steps that lead on within such limits; each leader appends its
// own number.
func fewIsrSteps(g impl.Group, few isrLimits) []impl.IsrStep {
	l := []impl.IsrStep{isRaise()}
	if len(g.Replicas[g.Leader].Log) < few.long {
		l = append(l, isAppend(g.Leader))
	}
	for k := range g.Replicas {
		l = append(l, isShrink(k), isExpand(k))
		if g.Epoch < few.epoch {
			l = append(l, isElect(k))
		}
		for n := range few.long + 1 {
			l = append(l, isFetch(k, n))
		}
	}
	return l
}

// All groups that few replicas come to in few epochs, with few rows.
func TestAllFewIsr(t *testing.T) {
	for _, few := range []isrLimits{{2, 4, 3}, {3, 2, 2}, {4, 1, 1}} {
		first, _ := impl.NewGroup(few.replicas)
		seen := map[string]bool{isrKey(first): true}
		all := []impl.Group{first}
		most := 0
		for at := 0; at < len(all) && !t.Failed(); at++ {
			g := all[at]
			wantInStep(t, g)
			most = max(most, g.High)
			for _, x := range fewIsrSteps(g, few) {
				got, ok := wantIsrStep(t, "few", g, x)
				if !ok {
					continue
				}
				wantRowsKept(t, g, got, x)
				if key := isrKey(got); !seen[key] {
					seen[key] = true
					all = append(all, got)
				}
			}
		}
		if most != few.long {
			t.Error("too few are committed", few, most)
		}
	}
}

func TestPlaysKeepWhatWasCommitted(t *testing.T) {
	r := newRandom()
	committed, led := 0, 0
	for range 2000 {
		replicas := 2 + r.IntN(3)
		l := randomIsrSteps(r, replicas, r.IntN(101))
		wantIsrPlay(t, "random", replicas, l)
		got, _, ok := impl.PlayGroup(replicas, l)
		if !ok {
			t.Fatal(replicas, l)
		}
		wantIsr(t, "random", got)
		wantInStep(t, got)
		half, _, _ := impl.PlayGroup(replicas, l[:len(l)/2])
		then, _ := impl.CommittedRows(half)
		now, _ := impl.CommittedRows(got)
		if !rowsBegin(now, then) {
			t.Error("what was committed is not", replicas, l)
		}
		committed += len(now)
		led += got.Epoch
	}
	if committed < 2000 || led < 2000 {
		t.Error("too few are committed, or led", committed, led)
	}
}

// Step by step, so that leaders come and go, rows that were not committed are cut,
// and logs and epochs come to their limits.
func TestLongRunsKeepWhatWasCommitted(t *testing.T) {
	r := newRandom()
	committed, cut, full, last := 0, 0, 0, 0
	for range 120 {
		now, _ := impl.NewGroup(2 + r.IntN(3))
		for range 1500 {
			x := randomIsrStep(r, now)
			next, ok := impl.StepGroup(now, x)
			if !ok {
				continue
			}
			wantRowsKept(t, now, next, x)
			wantInStep(t, next)
			for k, one := range next.Replicas {
				if !rowsBegin(one.Log, now.Replicas[k].Log) {
					cut++
				}
			}
			now = next
		}
		committed += now.High
		if now.High == 30 {
			full++
		}
		if now.Epoch == 100 {
			last++
		}
	}
	if committed < 2000 || cut < 200 || full == 0 || last == 0 {
		t.Error("not all came to be", committed, cut, full, last)
	}
}

// A group that no play made keeps what it has committed, too.
func TestAnyGoodIsrKeepsWhatWasCommitted(t *testing.T) {
	r := newRandom()
	for range 1500 {
		g := anyIsr(r)
		for _, x := range isrStepsOn(g) {
			if got, ok := impl.StepGroup(g, x); ok {
				wantRowsKept(t, g, got, x)
				wantInStep(t, got)
			}
		}
		then, _ := impl.CommittedRows(g)
		settled, up, ok := impl.SettleGroup(g)
		now, good := impl.CommittedRows(settled)
		if !ok || !good || !rowsBegin(now, then) || up != len(now)-len(then) {
			t.Error("what was committed is not", g, settled, up)
		}
		wantInStep(t, settled)
	}
}

// 1 knows two rows of the leader 0; then 2 leads, which has none of them.
func ledByAnother() impl.Group {
	return isrAfter(plainIsr(3), isAppend(5), isAppend(6), isFetch(1, 2), isElect(2), isAppend(7))
}

// Were the elder Known of 0 and 1 counted then a row would be committed that neither
// has, and gone with the next leader.
func TestKnownCountsInItsEpochAlone(t *testing.T) {
	g := ledByAnother()
	if g.Replicas[0].Known != 2 || g.Replicas[1].Known != 2 || g.Replicas[2].Known != 1 {
		t.Fatal(g)
	}
	wantNoIsrStep(t, "0 and 1 did not fetch yet", g, isRaise())
	g = isrAfter(g, isFetch(1, 30))
	wantNoIsrStep(t, "0 did not fetch yet", g, isRaise())
	alone := isrAfter(g, isShrink(0))
	wantIsrChanged(t, "those in step did", alone, isRaise(), func(g *impl.Group) { g.High = 1 })
	alone = isrAfter(alone, isRaise())
	wantNoIsrStep(t, "0 would be in step by what it knew", alone, isExpand(0))
	wantNoIsrStep(t, "0 may not lead", alone, isElect(0))
	back := isrAfter(alone, isFetch(0, 0))
	wantNoIsrStep(t, "0 has none of it", back, isExpand(0))
	back = isrAfter(back, isFetch(0, 1))
	wantIsrChanged(t, "0 has it", back, isExpand(0), func(g *impl.Group) { g.InStep = []int{0, 1, 2} })
	for k := range 3 {
		led := isrAfter(back, isExpand(0), isElect(k))
		if l, ok := impl.CommittedRows(led); !ok || !slices.Equal(l, []impl.Row{{Epoch: 1, Value: 7}}) {
			t.Error("whoever leads", k, l, ok)
		}
	}
}

// A leader that is elected once more counts anew, too: who fetched last in the epoch
// ahead may have been led by another one in between.
func TestALeaderElectedAgainCountsAnew(t *testing.T) {
	g := isrAfter(plainIsr(2), isAppend(5), isFetch(1, 1), isElect(0))
	wantNoIsrStep(t, "1 fetched in the epoch ahead", g, isRaise())
	g = isrAfter(g, isFetch(1, 0))
	wantIsrChanged(t, "1 fetched nothing, but in this one", g, isRaise(), func(g *impl.Group) { g.High = 1 })
}

// What the leader alone has may be committed where it alone is in step; who was in
// step may not lead then.
func TestTheLeaderAloneKeepsIt(t *testing.T) {
	g, did, ok := impl.PlayGroup(2, []impl.IsrStep{isShrink(1), isAppend(3), isRaise(), isElect(1), isExpand(1), isElect(0), isFetch(1, 1), isExpand(1), isElect(1)})
	if !ok || !slices.Equal(did, []bool{true, true, true, false, false, true, true, true, true}) {
		t.Fatal(g, did, ok)
	}
	if l, ok := impl.CommittedRows(g); !ok || !slices.Equal(l, []impl.Row{{Value: 3}}) || g.Leader != 1 {
		t.Error(l, ok)
	}
}

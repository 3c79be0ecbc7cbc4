package tests

import (
	"slices"
	"testing"

	"loop.example/g00361/impl"
)

// Promise 17: in a cluster that PlayCluster made what was acknowledged is with all in step,
// whoever still thinks that it leads, and stays.

// wantAckedInStep asks of a cluster that steps made that all in step have what is Acked,
// and that all that was ever told to be there is among it, by whomever.
func wantAckedInStep(t *testing.T, c impl.Cluster) {
	t.Helper()
	if !impl.GoodCluster(c) {
		t.Error("not good", c)
		return
	}
	for _, k := range c.Truth.InStep {
		if !rowsBegin(c.Nodes[k].Log, c.Acked) {
			t.Error("one in step does not have what is Acked", k, c)
		}
	}
	for k, n := range c.Nodes {
		if n.View.Leader == k && !rowsBegin(c.Acked, n.Log[:n.Told]) {
			t.Error("what was told to be there is not Acked", k, c)
		}
	}
	settled, ok := impl.SettleCluster(c)
	if !ok || !rowsBegin(settled.Acked, c.Acked) {
		t.Error("what was Acked does not stay", c, settled, ok)
	}
	for k, n := range settled.Nodes {
		if !slices.Equal(n.Log, settled.Acked) {
			t.Error("not all that there is comes to be Acked", k, c, settled)
		}
	}
}

// wantAckedStays asks of a step that was done that what was Acked is so still, and that
// nothing is so by another step than by telling.
func wantAckedStays(t *testing.T, before, after impl.Cluster, x impl.ClusterStep) {
	t.Helper()
	if !rowsBegin(after.Acked, before.Acked) {
		t.Error("what was Acked does not stay", before, x, after)
	}
	if x.Kind != impl.ClTell && len(after.Acked) != len(before.Acked) {
		t.Error("more is Acked, and nobody told it", before, x, after)
	}
	if x.Kind == impl.ClTell && after.Nodes[x.K].Told <= before.Nodes[x.K].Told {
		t.Error("nothing is told", before, x, after)
	}
}

// wantRulesEnough asks that no step leads from a cluster that steps made to one that is not
// good: the steps' own rules keep what is Acked.
func wantRulesEnough(t *testing.T, c impl.Cluster, x impl.ClusterStep) (impl.Cluster, bool) {
	t.Helper()
	got, ok := wantClusterStep(t, "played", c, x)
	if led, done := plainClusterRules(c, x); done != ok || done && !sameCluster(led, got) {
		t.Error("what the rules lead to is refused", c, x, led)
	}
	if ok {
		wantAckedStays(t, c, got, x)
	}
	return got, ok
}

// clusterKey is another one for each cluster of so many nodes.
func clusterKey(c impl.Cluster) string {
	var key []byte
	put := func(numbers ...int) {
		for _, n := range numbers {
			key = append(key, byte(n))
		}
	}
	putRows := func(l []impl.Row) {
		put(len(l))
		for _, r := range l {
			put(r.Epoch, r.Value)
		}
	}
	putView := func(v impl.View) {
		put(v.Epoch, v.Leader, len(v.InStep))
		put(v.InStep...)
	}
	putView(c.Truth)
	putRows(c.Acked)
	for _, n := range c.Nodes {
		putView(n.View)
		putRows(n.Log)
		put(n.Known...)
		put(n.Told)
	}
	return string(key)
}

type clusterLimits struct {
	nodes, epoch, long, clusters int
}

// fewClusterSteps are the steps that lead on within such limits; each leader appends its
// own number.
func fewClusterSteps(c impl.Cluster, few clusterLimits) []impl.ClusterStep {
	var l []impl.ClusterStep
	for k, n := range c.Nodes {
		l = append(l, clLearn(k), clTell(k))
		if c.Truth.Epoch < few.epoch {
			l = append(l, clElect(k))
		}
		if len(n.Log) < few.long {
			l = append(l, clAppend(k, k))
		}
		for to := range c.Nodes {
			l = append(l, clShrink(k, to), clExpand(k, to))
			for many := range few.long + 1 {
				l = append(l, clFetch(k, to, many))
			}
		}
	}
	return l
}

// All clusters that few nodes come to in few epochs, with few rows.
func TestAllFewClusters(t *testing.T) {
	for _, few := range []clusterLimits{{2, 3, 2, 17000}, {2, 2, 3, 13000}, {3, 1, 1, 13000}} {
		first, _ := impl.NewCluster(few.nodes)
		seen := map[string]bool{clusterKey(first): true}
		all := []impl.Cluster{first}
		most := 0
		for at := 0; at < len(all) && !t.Failed(); at++ {
			c := all[at]
			wantAckedInStep(t, c)
			most = max(most, len(c.Acked))
			for _, x := range fewClusterSteps(c, few) {
				got, ok := wantRulesEnough(t, c, x)
				if key := clusterKey(got); ok && !seen[key] {
					seen[key] = true
					all = append(all, got)
				}
			}
		}
		if most != few.long || len(all) < few.clusters {
			t.Error("too few come to be", few, most, len(all))
		}
	}
}

// toldLate counts what a leader of an elder Epoch tells that nobody told before.
func toldLate(before, after impl.Cluster, x impl.ClusterStep) int {
	if x.Kind != impl.ClTell || before.Nodes[x.K].View.Epoch == before.Truth.Epoch {
		return 0
	}
	return len(after.Acked) - len(before.Acked)
}

func TestPlaysKeepWhatWasAcked(t *testing.T) {
	r := newRandom()
	acked, led := 0, 0
	for range 1200 {
		nodes := 2 + r.IntN(3)
		l := randomClusterSteps(r, nodes, r.IntN(101))
		wantClusterPlay(t, "random", nodes, l)
		got, _, ok := impl.PlayCluster(nodes, l)
		if !ok {
			t.Fatal(nodes, l)
		}
		wantCluster(t, "random", got)
		wantAckedInStep(t, got)
		half, _, _ := impl.PlayCluster(nodes, l[:len(l)/2])
		if !rowsBegin(got.Acked, half.Acked) {
			t.Error("what was Acked does not stay", nodes, l)
		}
		acked += len(got.Acked)
		led += got.Truth.Epoch
	}
	if acked < 1200 || led < 1200 {
		t.Error("too few are Acked, or led", acked, led)
	}
}

// Step by step, so that leaders come and go and know it late, rows that were not Acked are
// cut, and logs and epochs come to their limits.
func TestLongRunsKeepWhatWasAcked(t *testing.T) {
	r := newRandom()
	late, cut, full, last, several := 0, 0, 0, 0, 0
	for range 100 {
		now, _ := impl.NewCluster(2 + r.IntN(3))
		for range 1500 {
			x := randomClusterStep(r, now)
			next, ok := impl.StepCluster(now, x)
			if !ok {
				continue
			}
			wantAckedStays(t, now, next, x)
			wantAckedInStep(t, next)
			late += toldLate(now, next, x)
			if x.Kind == impl.ClFetch && !rowsBegin(next.Nodes[x.K].Log, now.Nodes[x.K].Log) {
				cut++
			}
			if l, _ := impl.ThinkLead(next); len(l) > 2 {
				several++
			}
			now = next
		}
		if len(now.Acked) == 30 {
			full++
		}
		if now.Truth.Epoch == 100 {
			last++
		}
	}
	if late < 50 || cut < 100 || full == 0 || last == 0 || several < 100 {
		t.Error("not all came to be", late, cut, full, last, several)
	}
}

// From where plays lead each step is done that its own rules allow, but for the limits.
func TestRulesAloneKeepWhatWasAcked(t *testing.T) {
	r := newRandom()
	done := 0
	for range 150 {
		c := randomCluster(r)
		for _, x := range clusterStepsOn(c) {
			if _, ok := wantRulesEnough(t, c, x); ok {
				done++
			}
		}
	}
	if done < 1500 {
		t.Error("too few are done", done)
	}
}

// A cluster that no play made keeps what is Acked with all in step, too.
func TestAnyGoodClusterKeepsWhatIsAcked(t *testing.T) {
	r := newRandom()
	for range 500 {
		c := anyCluster(r)
		for _, x := range clusterStepsOn(c) {
			if got, ok := impl.StepCluster(c, x); ok {
				wantAckedStays(t, c, got, x)
			}
		}
		settled, ok := impl.SettleCluster(c)
		if !ok || !rowsBegin(settled.Acked, c.Acked) {
			t.Error("what is Acked does not stay", c, settled, ok)
		}
	}
}

func wantClusterPlayed(t *testing.T, why string, nodes, acked int, l ...impl.ClusterStep) impl.Cluster {
	t.Helper()
	c, did, ok := impl.PlayCluster(nodes, l)
	if !ok || slices.Contains(did, false) || len(c.Acked) != acked {
		t.Error(why, c, did, ok)
	}
	wantAckedInStep(t, c)
	return c
}

// What all in step have an elder leader may tell, though another one leads by now: who
// leads then has it.
func TestAnElderLeaderTellsWhatAllHave(t *testing.T) {
	l := []impl.ClusterStep{clAppend(0, 5), clAppend(0, 6), clFetch(1, 0, 1), clFetch(2, 0, 2), clElect(1), clLearn(1), clAppend(1, 7)}
	c := wantClusterPlayed(t, "1 has one of two rows, and leads", 3, 0, l...)
	if got, ok := impl.ThinkLead(c); !ok || !slices.Equal(got, []int{0, 1}) {
		t.Error(got, ok)
	}
	c = wantClusterPlayed(t, "0 tells that one", 3, 1, append(l, clTell(0))...)
	wantNoClusterStep(t, "0 has no more to tell", c, clTell(0))
	wantNoClusterStep(t, "1 has its own row alone", c, clTell(1))
	c = clusterAfter(c, clAppend(0, 8), clLearn(2), clFetch(2, 1, 30))
	wantNoClusterStep(t, "0 does not know by Epoch 1 what others have", c, clTell(0))
	wantNoClusterStep(t, "0 may not put 2 out of step", c, clShrink(0, 2))
	wantNoClusterStep(t, "0 is in step and has not fetched", c, clTell(1))
	c = clusterAfter(c, clShrink(1, 0), clTell(1))
	if !slices.Equal(c.Acked, []impl.Row{{Value: 5}, {Epoch: 1, Value: 7}}) {
		t.Error(c)
	}
	wantAckedInStep(t, c)
	settled, ok := impl.SettleCluster(c)
	if !ok || !slices.Equal(settled.Nodes[0].Log, c.Acked) {
		t.Error("what 0 alone had is gone", settled, ok)
	}
}

// 0 and 1 have a row that 0 did not tell yet; then 1 leads. Were 2 in step again without
// that row 0 could tell it, and 2 could lead without it.
func TestWhoComesBackHasAllElderRows(t *testing.T) {
	l := []impl.ClusterStep{clShrink(0, 2), clAppend(0, 5), clFetch(1, 0, 1), clElect(1), clLearn(1), clLearn(2), clAppend(1, 6), clFetch(2, 1, 0)}
	c := wantClusterPlayed(t, "2 has nothing", 3, 0, l...)
	wantNoClusterStep(t, "2 lacks the elder row", c, clExpand(1, 2))
	wantClusterPlayed(t, "0 tells it", 3, 1, append(l, clTell(0))...)
	l = append(l, clFetch(2, 1, 1), clExpand(1, 2), clTell(0), clElect(2), clLearn(2), clAppend(2, 7))
	c = wantClusterPlayed(t, "2 has it, comes back and leads", 3, 1, l...)
	if !rowsBegin(c.Nodes[2].Log, []impl.Row{{Value: 5}}) {
		t.Error(c)
	}
}

// What a leader knew of others in the epoch in which it led before does not count when it
// leads once more.
func TestALeaderOfTheClusterCountsAnew(t *testing.T) {
	l := []impl.ClusterStep{clAppend(0, 5), clFetch(1, 0, 1), clElect(1), clElect(0), clLearn(0)}
	c := wantClusterPlayed(t, "0 leads once more", 2, 0, l...)
	wantNoClusterStep(t, "1 has it, but fetched it in another Epoch", c, clTell(0))
	wantNoClusterStep(t, "1 does not know the Epoch", c, clFetch(1, 0, 30))
	wantClusterPlayed(t, "1 fetches nothing, but in this one", 2, 1, append(l, clLearn(1), clFetch(1, 0, 0), clTell(0))...)
	told := wantClusterPlayed(t, "what it told does not count, either", 2, 1, clAppend(0, 5), clFetch(1, 0, 1), clTell(0), clElect(0), clLearn(0))
	if n := told.Nodes[0]; n.Told != 0 || !slices.Equal(n.Known, []int{1, 0}) {
		t.Error(n)
	}
	wantRowsTold(t, "it is told once more, and Acked already", clusterAfter(told, clLearn(1), clFetch(1, 0, 0)), 0, 1, 1)
}

// Who leads and does not know it fetches from who led before; what it has by then it keeps.
func TestWhoLeadsAndDoesNotKnowItFetches(t *testing.T) {
	l := []impl.ClusterStep{clAppend(0, 5), clElect(1), clFetch(1, 0, 1), clTell(0)}
	c := wantClusterPlayed(t, "0 tells what 1 fetched late", 2, 1, l...)
	wantNoClusterStep(t, "0 may not change who is in step", c, clShrink(0, 1))
	c = wantClusterPlayed(t, "1 has it when it knows that it leads", 2, 1, append(l, clLearn(1), clShrink(1, 0), clAppend(1, 6))...)
	wantRowsTold(t, "1 tells its own", c, 1, 2, 2)
	c = wantClusterPlayed(t, "1 knew it first", 2, 0, clAppend(0, 5), clElect(1), clLearn(1))
	wantNoClusterStep(t, "0 can't tell what 1 did not fetch", c, clTell(0))
	wantNoClusterStep(t, "nor can 1 fetch it any more", c, clFetch(1, 0, 1))
}

// Where the leader alone is in step it tells what it alone has; nobody else may lead.
func TestTheLeaderAloneTells(t *testing.T) {
	l := []impl.ClusterStep{clShrink(0, 1), clAppend(0, 5), clTell(0)}
	c := wantClusterPlayed(t, "alone", 2, 1, l...)
	wantNoClusterStep(t, "1 does not have it", c, clElect(1))
	wantNoClusterStep(t, "1 may not come back without it", c, clExpand(0, 1))
	wantClusterPlayed(t, "1 has it", 2, 1, append(l, clFetch(1, 0, 1), clExpand(0, 1), clElect(1), clLearn(1))...)
}

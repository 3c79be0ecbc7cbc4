package tests

import (
	"math/rand/v2"
	"slices"
	"testing"

	"loop.example/g00361/impl"
)

// Promise 19 for chapter 17: answers at any arguments, nothing written into an argument, no
// memory shared.

// numbersOfView are the places of all numbers of a view.
func numbersOfView(v *impl.View) []*int {
	l := []*int{&v.Epoch, &v.Leader}
	for i := range v.InStep {
		l = append(l, &v.InStep[i])
	}
	return l
}

func numbersOfRows(rows []impl.Row) []*int {
	var l []*int
	for i := range rows {
		l = append(l, &rows[i].Epoch, &rows[i].Value)
	}
	return l
}

func numbersOfCluster(c *impl.Cluster) []*int {
	l := append(numbersOfView(&c.Truth), numbersOfRows(c.Acked)...)
	for k := range c.Nodes {
		n := &c.Nodes[k]
		l = append(l, numbersOfView(&n.View)...)
		l = append(l, numbersOfRows(n.Log)...)
		for i := range n.Known {
			l = append(l, &n.Known[i])
		}
		l = append(l, &n.Told)
	}
	return l
}

func oddClusters() []impl.Cluster {
	many := make([]impl.Row, 1<<16)
	l := []impl.Cluster{
		{},
		{Truth: impl.View{InStep: []int{}}, Nodes: []impl.Node{}, Acked: []impl.Row{}},
		{Truth: plainFirstView(2), Nodes: make([]impl.Node, 2)},
		{Truth: plainFirstView(2), Nodes: make([]impl.Node, 1<<16), Acked: many},
		changedCluster(func(c *impl.Cluster) { c.Nodes = make([]impl.Node, 1<<16) }),
		changedCluster(func(c *impl.Cluster) { c.Nodes = nil }),
		changedCluster(func(c *impl.Cluster) { c.Nodes = c.Nodes[:1] }),
		changedCluster(func(c *impl.Cluster) { c.Truth = impl.View{} }),
		changedCluster(func(c *impl.Cluster) { c.Truth.InStep = nil }),
		changedCluster(func(c *impl.Cluster) { c.Truth.InStep = make([]int, 1<<16) }),
		changedCluster(func(c *impl.Cluster) { c.Truth.InStep = steps(1<<16, 0, 1) }),
		changedCluster(func(c *impl.Cluster) { c.Acked = many }),
		changedCluster(func(c *impl.Cluster) { c.Acked = manyRows(1<<16, 1) }),
	}
	for k := range 4 {
		l = append(l,
			changedCluster(func(c *impl.Cluster) { c.Nodes[k] = impl.Node{} }),
			changedCluster(func(c *impl.Cluster) { c.Nodes[k].Log = many }),
			changedCluster(func(c *impl.Cluster) { c.Nodes[k].Log = nil }),
			changedCluster(func(c *impl.Cluster) { c.Nodes[k].Known = nil }),
			changedCluster(func(c *impl.Cluster) { c.Nodes[k].Known = make([]int, 1<<16) }),
			changedCluster(func(c *impl.Cluster) { c.Nodes[k].View = impl.View{} }),
			changedCluster(func(c *impl.Cluster) { c.Nodes[k].View.InStep = nil }),
			changedCluster(func(c *impl.Cluster) { c.Nodes[k].View.InStep = steps(1<<16, 0, 1) }))
	}
	first := lateLeaders()
	for _, n := range append(oddNumbers(), -2, 2, 3, 4, 5, 6, 29, 30, 31, 63, 64, 65, 99, 100, 101) {
		for i := range numbersOfCluster(&first) {
			c := lateLeaders()
			*numbersOfCluster(&c)[i] = n
			l = append(l, c)
		}
		all := lateLeaders()
		for _, p := range numbersOfCluster(&all) {
			*p = n
		}
		l = append(l, all)
	}
	return l
}

func TestAnyClusterIsAnswered(t *testing.T) {
	for _, c := range oddClusters() {
		wantCluster(t, "odd", c)
		for _, x := range []impl.ClusterStep{clElect(2), clLearn(0), clLearn(2), clAppend(0, 5), clAppend(1, 5), clFetch(2, 1, 1), clFetch(3, 0, 1), clShrink(1, 2), clExpand(1, 3), clTell(0), clTell(1), {}, {Kind: 8}} {
			wantClusterStep(t, "odd", c, x)
		}
	}
}

func TestAnyClusterStepIsAnswered(t *testing.T) {
	numbers := append(oddNumbers(), 2, 3, 4, 30, 31, 64)
	var all []impl.ClusterStep
	for kind := -1; kind <= 8; kind++ {
		for i, a := range numbers {
			for _, b := range numbers {
				all = append(all, impl.ClusterStep{Kind: kind, K: a, To: b, N: numbers[len(numbers)-1-i]}, impl.ClusterStep{Kind: kind, K: 1, To: a, N: b}, impl.ClusterStep{Kind: kind, K: a, N: b})
			}
		}
	}
	for _, n := range numbers {
		all = append(all, impl.ClusterStep{Kind: n}, impl.ClusterStep{Kind: n, K: n, To: n, N: n})
	}
	for _, c := range []impl.Cluster{{}, lateLeaders(), plainCluster(2), fullCluster(), badClusters()["one in step lacks all"]} {
		for _, x := range all {
			wantClusterStep(t, "odd", c, x)
		}
	}
	for i, x := range all {
		if i%7 == 0 {
			wantClusterPlay(t, "odd", 3, []impl.ClusterStep{x, clAppend(0, 4), x, clFetch(1, 0, 1), x, clShrink(0, 2), all[len(all)-1-i], clTell(0), x, clElect(1), x, clLearn(1), x})
		}
	}
	wantClusterPlay(t, "many", 3, make([]impl.ClusterStep, 1<<16))
	wantClusterPlay(t, "many good ones", 2, slices.Repeat([]impl.ClusterStep{clFetch(1, 0, 1)}, 1<<16))
}

func TestAnyNumbersOfNodesAreAnswered(t *testing.T) {
	for _, n := range append(oddNumbers(), 2, 3, 4, 5, 6) {
		want, wanted := plainNewCluster(n)
		if c, ok := impl.NewCluster(n); ok != wanted || !sameCluster(c, want) {
			t.Error(n, c, ok)
		}
		wantClusterPlay(t, "odd", n, []impl.ClusterStep{clAppend(0, 1), clFetch(1, 0, 1), clFetch(2, 0, 1), clTell(0), clElect(3), clLearn(3)})
	}
}

// shiftedCluster changes one number or list of a cluster a little.
func shiftedCluster(r *rand.Rand, first impl.Cluster) impl.Cluster {
	c := copyOfCluster(first)
	k := r.IntN(len(c.Nodes))
	n := &c.Nodes[k]
	switch r.IntN(14) {
	case 0:
		n.Log = append(n.Log, impl.Row{Epoch: r.IntN(c.Truth.Epoch + 2), Value: r.IntN(3)})
	case 1:
		n.Log = n.Log[:r.IntN(len(n.Log)+1)]
	case 2:
		n.Known[r.IntN(len(n.Known))] = r.IntN(len(n.Log) + 1)
	case 3:
		n.Told = r.IntN(len(n.Log) + 1)
	case 4:
		n.View = copyOfView(c.Truth)
	case 5:
		n.View = anyView(r, len(c.Nodes), r.IntN(c.Truth.Epoch+1), r.IntN(len(c.Nodes)))
	case 6:
		n.View.InStep = listOf(r.IntN(1 << len(c.Nodes)))
	case 7:
		c.Truth.InStep = listOf(r.IntN(1 << len(c.Nodes)))
	case 8:
		c.Truth.Leader = k
	case 9:
		c.Acked = slices.Clone(n.Log[:r.IntN(len(n.Log)+1)])
	case 10:
		c.Truth.Epoch++
	default:
		numbers := numbersOfCluster(&c)
		*numbers[r.IntN(len(numbers))] += 1 - 2*r.IntN(2)
	}
	return c
}

func TestClustersNearToGoodOnesAreAnswered(t *testing.T) {
	r := newRandom()
	good := 0
	for i := range 1500 {
		first := randomCluster(r)
		if i%2 == 0 {
			first = anyCluster(r)
		}
		near := shiftedCluster(r, first)
		if plainClusterGood(near) {
			good++
		}
		wantClusterSteps(t, "near", near)
	}
	if good < 300 || good > 1200 {
		t.Error("one kind of clusters alone", good)
	}
}

// roomyCluster is the same cluster, all its lists with room behind their length, in which
// stands what would be taken for more of them.
func roomyCluster(first impl.Cluster) impl.Cluster {
	c := first
	roomyView := func(v impl.View) impl.View {
		v.InStep, _ = roomyList(v.InStep, len(first.Nodes)-1, -7)
		return v
	}
	c.Truth = roomyView(first.Truth)
	c.Acked, _ = roomyList(first.Acked, impl.Row{Epoch: first.Truth.Epoch, Value: 1}, impl.Row{Epoch: -7})
	c.Nodes = nil
	for _, n := range first.Nodes {
		n.View = roomyView(n.View)
		n.Log, _ = roomyList(n.Log, impl.Row{Epoch: n.View.Epoch, Value: 1}, impl.Row{Epoch: -7})
		n.Known, _ = roomyList(n.Known, 0, -7)
		c.Nodes = append(c.Nodes, n)
	}
	c.Nodes, _ = roomyList(c.Nodes, impl.Node{}, impl.Node{Told: -7})
	return c
}

// memoryOfCluster is a cluster with all its lists up to the end of their memory.
func memoryOfCluster(c impl.Cluster) impl.Cluster {
	c.Truth.InStep = c.Truth.InStep[:cap(c.Truth.InStep)]
	c.Acked = c.Acked[:cap(c.Acked)]
	c.Nodes = slices.Clone(c.Nodes[:cap(c.Nodes)])
	for k, n := range c.Nodes {
		n.View.InStep, n.Log, n.Known = n.View.InStep[:cap(n.View.InStep)], n.Log[:cap(n.Log)], n.Known[:cap(n.Known)]
		c.Nodes[k] = n
	}
	return c
}

// tightClusters are good ones, some of them with lists that are pieces of one memory.
func tightClusters() map[string]impl.Cluster {
	all := someClusters()
	log := rows(1, 1, 2, 3)
	pieces := lateLeaders()
	for k := range pieces.Nodes {
		pieces.Nodes[k].Log = log[:2+k%3]
		pieces.Nodes[k].Told = 0
	}
	pieces.Nodes[0].Known, pieces.Nodes[1].Known, pieces.Acked = []int{2, 2, 1, 0}, []int{1, 3, 3, 1}, log[:1]
	all["pieces of one memory"] = pieces
	same := lateLeaders()
	for k := range same.Nodes {
		same.Nodes[k].Log, same.Nodes[k].Told = log, 1
	}
	same.Nodes[0].Known, same.Acked = []int{4, 3, 3, 3}, log[:2]
	same.Truth.InStep = []int{0, 1, 2, 3}
	all["the same log"] = same
	views := copyOfCluster(same)
	some := []int{0, 1, 2, 3}
	views.Truth.InStep = some[1:3]
	for k := range views.Nodes {
		views.Nodes[k].View = impl.View{Epoch: 4, Leader: 1, InStep: some[1:3]}
		if k != 1 {
			views.Nodes[k].Known = make([]int, 4)
		}
	}
	views.Nodes[0].View.InStep, views.Nodes[2].View.InStep = some[:2], some
	all["one memory for all InStep"] = views
	none := make([]int, 8)
	empty := plainCluster(3)
	for k := range empty.Nodes {
		empty.Nodes[k].Log, empty.Nodes[k].Known = log[k:k], none[k:k+3]
	}
	empty.Acked = log[:0]
	all["empty pieces of one memory"] = empty
	return all
}

func TestClustersStayAsTheyAre(t *testing.T) {
	all := badClusters()
	for why, c := range tightClusters() {
		if !impl.GoodCluster(c) {
			t.Fatal("not good", why)
		}
		all[why] = c
	}
	for why, first := range all {
		c := roomyCluster(first)
		if !sameCluster(c, first) {
			t.Fatal("the cluster with room is not the same", why)
		}
		before := copyOfCluster(memoryOfCluster(c))
		wantClusterSteps(t, why, c)
		if !sameCluster(c, first) || !sameCluster(memoryOfCluster(c), before) {
			t.Error("written into the cluster:", why)
		}
	}
}

// What lies behind a list's end in its memory is not written over by what is put behind
// the list.
func TestClustersThatShareTheirMemoryStayAsTheyAre(t *testing.T) {
	for why, c := range tightClusters() {
		before := copyOfCluster(memoryOfCluster(c))
		wantClusterSteps(t, why, c)
		if !sameCluster(memoryOfCluster(c), before) {
			t.Error("written into the cluster:", why)
		}
	}
}

func TestClusterStepsStayAsTheyAre(t *testing.T) {
	r := newRandom()
	for many := range 103 {
		nodes := 2 + r.IntN(3)
		l, memory := roomyList(randomClusterSteps(r, nodes, many), clAppend(0, 1), impl.ClusterStep{Kind: -7})
		before := slices.Clone(memory)
		wantClusterPlay(t, "room", nodes, l)
		if !slices.Equal(memory, before) {
			t.Error("written into the steps", many)
		}
	}
}

// listsOfCluster are all lists of numbers of a cluster.
func listsOfCluster(c impl.Cluster) [][]int {
	l := [][]int{c.Truth.InStep}
	for _, n := range c.Nodes {
		l = append(l, n.View.InStep, n.Known)
	}
	return l
}

func logsOfCluster(c impl.Cluster) [][]impl.Row {
	l := [][]impl.Row{c.Acked}
	for _, n := range c.Nodes {
		l = append(l, n.Log)
	}
	return l
}

// wantOwnRows asks that no list of the answer is of such memory, nor two of them of one.
func wantOwnRows(t *testing.T, why string, given, got [][]impl.Row) {
	t.Helper()
	for i, l := range got {
		for _, other := range slices.Concat(given, got[:i]) {
			if listsShare(l, other) {
				t.Error(why, "rows are shared", i)
			}
		}
	}
}

func wantOwnCluster(t *testing.T, why string, c impl.Cluster, got impl.Cluster) {
	t.Helper()
	if listsShare(c.Nodes, got.Nodes) {
		t.Error(why, "the nodes are shared")
	}
	wantOwnLists(t, why, listsOfCluster(c), listsOfCluster(got))
	wantOwnRows(t, why, logsOfCluster(c), logsOfCluster(got))
}

func TestClustersShareNoMemory(t *testing.T) {
	for why, first := range tightClusters() {
		for _, c := range []impl.Cluster{first, roomyCluster(first)} {
			for _, x := range clusterStepsOn(c) {
				if got, ok := impl.StepCluster(c, x); ok {
					wantOwnCluster(t, why, c, got)
				}
			}
			settled, _ := impl.SettleCluster(c)
			wantOwnCluster(t, why, c, settled)
			behind, _ := impl.BehindIn(c)
			think, _ := impl.ThinkLead(c)
			again, _ := impl.ThinkLead(c)
			wantOwnLists(t, why, listsOfCluster(c), [][]int{behind, think, again})
		}
	}
	r := newRandom()
	for range 100 {
		nodes := 2 + r.IntN(3)
		got, _, _ := impl.PlayCluster(nodes, randomClusterSteps(r, nodes, 100))
		wantOwnCluster(t, "played", impl.Cluster{}, got)
	}
	for nodes := 2; nodes <= 4; nodes++ {
		got, _ := impl.NewCluster(nodes)
		wantOwnCluster(t, "new", impl.Cluster{}, got)
		other, _ := impl.NewCluster(nodes)
		wantOwnCluster(t, "new twice", other, got)
	}
}

// spoilCluster writes into all of a cluster's memory.
func spoilCluster(c impl.Cluster) {
	for _, l := range listsOfCluster(c) {
		fill(l)
	}
	for _, l := range logsOfCluster(c) {
		spoilRows(l)
	}
	spoilList(c.Nodes, impl.Node{Told: -9})
}

// What is done to an answer, up to the end of its memory, is not seen in an argument, nor
// in what is answered next.
func TestAnsweredClustersMayBeWrittenInto(t *testing.T) {
	for why, first := range tightClusters() {
		c := roomyCluster(first)
		before := copyOfCluster(memoryOfCluster(c))
		for range 2 {
			for _, x := range clusterStepsOn(c) {
				got, _ := wantClusterStep(t, why, c, x)
				spoilCluster(got)
			}
			settled, _ := impl.SettleCluster(c)
			spoilCluster(settled)
			behind, _ := impl.BehindIn(c)
			fill(behind)
			think, _ := impl.ThinkLead(c)
			fill(think)
			wantCluster(t, why, c)
		}
		if !sameCluster(memoryOfCluster(c), before) {
			t.Error("written into the cluster:", why)
		}
	}
	l := []impl.ClusterStep{clAppend(0, 7), clFetch(1, 0, 1), clShrink(0, 2), clTell(0), clElect(1), clLearn(1), clTell(0), clLearn(2), clFetch(2, 1, 1), clExpand(1, 2)}
	for range 2 {
		c, did, _ := impl.PlayCluster(3, l)
		spoilCluster(c)
		spoilList(did, false)
		wantClusterPlay(t, "once more", 3, l)
		fresh, _ := impl.NewCluster(3)
		spoilCluster(fresh)
	}
	TestNewCluster(t)
}

func handsOutCluster(c impl.Cluster) bool {
	return c.Truth.Epoch+c.Truth.Leader+cap(c.Truth.InStep)+cap(c.Nodes)+cap(c.Acked) != 0
}

// What is refused hands out nothing, not even an empty list with memory of an argument
// behind it.
func TestRefusedClustersHandOutNothing(t *testing.T) {
	all := badClusters()
	for why, c := range someClusters() {
		all[why] = c
	}
	for why, first := range all {
		c := roomyCluster(first)
		for _, x := range clusterStepsOn(c) {
			if got, ok := impl.StepCluster(c, x); !ok && handsOutCluster(got) {
				t.Error(why, x, got)
			}
		}
		if got, ok := impl.SettleCluster(c); !ok && handsOutCluster(got) {
			t.Error(why, got)
		}
		if l, ok := impl.BehindIn(c); !ok && cap(l) != 0 {
			t.Error(why, l)
		}
		if l, ok := impl.ThinkLead(c); !ok && cap(l) != 0 {
			t.Error(why, l)
		}
	}
	for _, nodes := range []int{-1, 0, 1, 5} {
		if c, ok := impl.NewCluster(nodes); ok || handsOutCluster(c) {
			t.Error(nodes, c, ok)
		}
		if c, did, ok := impl.PlayCluster(nodes, make([]impl.ClusterStep, 3)); ok || handsOutCluster(c) || cap(did) != 0 {
			t.Error(nodes, c, did, ok)
		}
	}
	if c, did, ok := impl.PlayCluster(3, make([]impl.ClusterStep, 101)); ok || handsOutCluster(c) || cap(did) != 0 {
		t.Error("one step too many", c, did, ok)
	}
}

package tests

import (
	"math/rand/v2"
	"slices"

	"loop.example/g00361/impl"
)

// What chapter 17 says, written once more in the plainest way: node by node, each limit as
// a number, and settled by what stands in the end, not by steps.

func plainFirstView(nodes int) impl.View {
	return impl.View{InStep: steps(nodes, 0, 1)}
}

// plainCluster has so many nodes at its beginning, however many.
func plainCluster(nodes int) impl.Cluster {
	c := impl.Cluster{Truth: plainFirstView(nodes)}
	for range nodes {
		c.Nodes = append(c.Nodes, impl.Node{View: plainFirstView(nodes), Known: make([]int, nodes)})
	}
	return c
}

func plainNewCluster(nodes int) (impl.Cluster, bool) {
	if nodes < 2 || nodes > 4 {
		return impl.Cluster{}, false
	}
	return plainCluster(nodes), true
}

func plainViewGood(v impl.View, nodes int) bool {
	return v.Epoch >= 0 && v.Epoch <= 100 && plainRising(v.InStep, nodes) && slices.Contains(v.InStep, v.Leader)
}

func plainNodeGood(n impl.Node, k, nodes int) bool {
	if !plainViewGood(n.View, nodes) || !plainRowsGood(n.Log, n.View.Epoch) || len(n.Known) != nodes {
		return false
	}
	for _, known := range n.Known {
		if known < 0 || known > len(n.Log) || known > 0 && n.View.Leader != k {
			return false
		}
	}
	return n.Told >= 0 && n.Told <= len(n.Log)
}

func plainClusterGood(c impl.Cluster) bool {
	nodes := len(c.Nodes)
	if nodes < 2 || nodes > 4 || !plainViewGood(c.Truth, nodes) || !plainRowsGood(c.Acked, 100) {
		return false
	}
	for k, n := range c.Nodes {
		if !plainNodeGood(n, k, nodes) || n.View.Epoch > c.Truth.Epoch {
			return false
		}
		if n.View.Epoch == c.Truth.Epoch && n.View.Leader != c.Truth.Leader {
			return false
		}
		if slices.Contains(c.Truth.InStep, k) && !rowsBegin(n.Log, c.Acked) {
			return false
		}
	}
	return true
}

func plainClElect(c *impl.Cluster, k int) bool {
	if !slices.Contains(c.Truth.InStep, k) || c.Truth.Epoch > 99 {
		return false
	}
	c.Truth.Epoch++
	c.Truth.Leader = k
	return true
}

func plainClLearn(c *impl.Cluster, k int) bool {
	n := &c.Nodes[k]
	if sameView(n.View, c.Truth) {
		return false
	}
	if n.View.Epoch != c.Truth.Epoch {
		n.Told = 0
		n.Known = make([]int, len(c.Nodes))
		if c.Truth.Leader == k {
			n.Known[k] = len(n.Log)
		}
	}
	n.View = copyOfView(c.Truth)
	return true
}

func plainClAppend(c *impl.Cluster, k, value int) bool {
	n := &c.Nodes[k]
	if n.View.Leader != k || value < 0 || value > 99 || len(n.Log) > 29 {
		return false
	}
	n.Log = append(n.Log, impl.Row{Epoch: n.View.Epoch, Value: value})
	n.Known[k] = len(n.Log)
	return true
}

func plainClFetch(c *impl.Cluster, k, to, most int) bool {
	if k == to || to < 0 || to >= len(c.Nodes) || most < 0 || most > 30 {
		return false
	}
	n, lead := &c.Nodes[k], &c.Nodes[to]
	if lead.View.Leader != to || n.View.Leader == k || n.View.Epoch != lead.View.Epoch {
		return false
	}
	n.Log = slices.Clone(n.Log[:plainShared(n.Log, lead.Log)])
	for ; most > 0 && len(n.Log) < len(lead.Log); most-- {
		n.Log = append(n.Log, lead.Log[len(n.Log)])
	}
	lead.Known[k] = len(n.Log)
	n.Told = 0
	return true
}

func plainMayChangeInStep(c *impl.Cluster, k, to int) bool {
	n := c.Nodes[k]
	return n.View.Leader == k && n.View.Epoch == c.Truth.Epoch && to >= 0 && to < len(c.Nodes)
}

func plainClShrink(c *impl.Cluster, k, to int) bool {
	at := slices.Index(c.Truth.InStep, to)
	if !plainMayChangeInStep(c, k, to) || at < 0 || to == k {
		return false
	}
	c.Truth.InStep = slices.Delete(c.Truth.InStep, at, at+1)
	c.Nodes[k].View.InStep = slices.Clone(c.Truth.InStep)
	return true
}

func plainClExpand(c *impl.Cluster, k, to int) bool {
	if !plainMayChangeInStep(c, k, to) || slices.Contains(c.Truth.InStep, to) {
		return false
	}
	n := c.Nodes[k]
	elder := 0
	for _, r := range n.Log {
		if r.Epoch < n.View.Epoch {
			elder++
		}
	}
	if n.Known[to] < n.Told || n.Known[to] < elder {
		return false
	}
	c.Truth.InStep = append(c.Truth.InStep, to)
	slices.Sort(c.Truth.InStep)
	c.Nodes[k].View.InStep = slices.Clone(c.Truth.InStep)
	return true
}

// plainLeastKnown is of what a node knows of those that it thinks to be in step.
func plainLeastKnown(n impl.Node) int {
	var known []int
	for _, k := range n.View.InStep {
		known = append(known, n.Known[k])
	}
	return slices.Min(known)
}

func plainClTell(c *impl.Cluster, k int) bool {
	n := &c.Nodes[k]
	if n.View.Leader != k || plainLeastKnown(*n) <= n.Told {
		return false
	}
	n.Told = plainLeastKnown(*n)
	if n.Told > len(c.Acked) {
		c.Acked = slices.Clone(n.Log[:n.Told])
	}
	return true
}

// plainClusterRules are the steps by their own rules alone: where they lead may be a
// cluster that is not good.
func plainClusterRules(c impl.Cluster, x impl.ClusterStep) (impl.Cluster, bool) {
	if !plainClusterGood(c) || x.K < 0 || x.K >= len(c.Nodes) {
		return impl.Cluster{}, false
	}
	c = copyOfCluster(c)
	done := false
	switch x.Kind {
	case 1:
		done = x.To == 0 && x.N == 0 && plainClElect(&c, x.K)
	case 2:
		done = x.To == 0 && x.N == 0 && plainClLearn(&c, x.K)
	case 3:
		done = x.To == 0 && plainClAppend(&c, x.K, x.N)
	case 4:
		done = plainClFetch(&c, x.K, x.To, x.N)
	case 5:
		done = x.N == 0 && plainClShrink(&c, x.K, x.To)
	case 6:
		done = x.N == 0 && plainClExpand(&c, x.K, x.To)
	case 7:
		done = x.To == 0 && x.N == 0 && plainClTell(&c, x.K)
	}
	if !done {
		return impl.Cluster{}, false
	}
	return c, true
}

func plainClusterStep(c impl.Cluster, x impl.ClusterStep) (impl.Cluster, bool) {
	c, done := plainClusterRules(c, x)
	if !done || !plainClusterGood(c) {
		return impl.Cluster{}, false
	}
	return c, true
}

func plainClusterPlay(nodes int, l []impl.ClusterStep) (impl.Cluster, []bool, bool) {
	c, ok := plainNewCluster(nodes)
	if !ok || len(l) > 100 {
		return impl.Cluster{}, nil, false
	}
	var did []bool
	for _, x := range l {
		next, done := plainClusterStep(c, x)
		if done {
			c = next
		}
		did = append(did, done)
	}
	return c, did, true
}

func plainBehindIn(c impl.Cluster) ([]int, bool) {
	if !plainClusterGood(c) {
		return nil, false
	}
	var l []int
	for k, n := range c.Nodes {
		if !sameView(n.View, c.Truth) {
			l = append(l, k)
		}
	}
	return l, true
}

func plainThinkLead(c impl.Cluster) ([]int, bool) {
	if !plainClusterGood(c) {
		return nil, false
	}
	var l []int
	for k, n := range c.Nodes {
		if n.View.Leader == k {
			l = append(l, k)
		}
	}
	return l, true
}

// plainSettleCluster has all nodes as the leader is. What the leader knew and told before
// counts where it is of the Truth's Epoch already.
func plainSettleCluster(c impl.Cluster) (impl.Cluster, bool) {
	if !plainClusterGood(c) {
		return impl.Cluster{}, false
	}
	lead := c.Nodes[c.Truth.Leader]
	own, told := len(lead.Log), 0
	if lead.View.Epoch == c.Truth.Epoch {
		own, told = lead.Known[c.Truth.Leader], lead.Told
	}
	out := plainCluster(len(c.Nodes))
	out.Truth.Epoch, out.Truth.Leader = c.Truth.Epoch, c.Truth.Leader
	out.Acked = slices.Clone(c.Acked)
	if own > told {
		told = own
		if own > len(out.Acked) {
			out.Acked = slices.Clone(lead.Log[:own])
		}
	}
	for k := range out.Nodes {
		out.Nodes[k].View = copyOfView(out.Truth)
		out.Nodes[k].Log = slices.Clone(lead.Log)
		if k == c.Truth.Leader {
			out.Nodes[k].Told = told
			out.Nodes[k].Known = slices.Repeat([]int{len(lead.Log)}, len(c.Nodes))
			out.Nodes[k].Known[k] = own
		}
	}
	return out, true
}

func clElect(k int) impl.ClusterStep {
	return impl.ClusterStep{Kind: impl.ClElect, K: k}
}

func clLearn(k int) impl.ClusterStep {
	return impl.ClusterStep{Kind: impl.ClLearn, K: k}
}

func clAppend(k, n int) impl.ClusterStep {
	return impl.ClusterStep{Kind: impl.ClAppend, K: k, N: n}
}

func clFetch(k, to, n int) impl.ClusterStep {
	return impl.ClusterStep{Kind: impl.ClFetch, K: k, To: to, N: n}
}

func clShrink(k, to int) impl.ClusterStep {
	return impl.ClusterStep{Kind: impl.ClShrink, K: k, To: to}
}

func clExpand(k, to int) impl.ClusterStep {
	return impl.ClusterStep{Kind: impl.ClExpand, K: k, To: to}
}

func clTell(k int) impl.ClusterStep {
	return impl.ClusterStep{Kind: impl.ClTell, K: k}
}

// clusterAfter is where steps lead; each must be done.
func clusterAfter(c impl.Cluster, l ...impl.ClusterStep) impl.Cluster {
	for _, x := range l {
		next, ok := plainClusterStep(c, x)
		if !ok {
			panic("no step")
		}
		c = next
	}
	return c
}

func sameView(a, b impl.View) bool {
	return a.Epoch == b.Epoch && a.Leader == b.Leader && slices.Equal(a.InStep, b.InStep)
}

func sameNode(a, b impl.Node) bool {
	return sameView(a.View, b.View) && slices.Equal(a.Log, b.Log) && slices.Equal(a.Known, b.Known) && a.Told == b.Told
}

func sameCluster(a, b impl.Cluster) bool {
	return sameView(a.Truth, b.Truth) && slices.EqualFunc(a.Nodes, b.Nodes, sameNode) && slices.Equal(a.Acked, b.Acked)
}

func copyOfView(v impl.View) impl.View {
	v.InStep = slices.Clone(v.InStep)
	return v
}

// copyOfCluster shares no list with what it is given.
func copyOfCluster(c impl.Cluster) impl.Cluster {
	c.Truth, c.Acked, c.Nodes = copyOfView(c.Truth), slices.Clone(c.Acked), slices.Clone(c.Nodes)
	for k, n := range c.Nodes {
		n.View, n.Log, n.Known = copyOfView(n.View), slices.Clone(n.Log), slices.Clone(n.Known)
		c.Nodes[k] = n
	}
	return c
}

// clusterStepsOn are all steps, and those right beside them, that such a cluster has.
func clusterStepsOn(c impl.Cluster) []impl.ClusterStep {
	last := min(5, len(c.Nodes))
	var l []impl.ClusterStep
	for k := -1; k <= last; k++ {
		l = append(l, clElect(k), clLearn(k), clTell(k))
		for _, n := range []int{-1, 0, 50, 99, 100} {
			l = append(l, clAppend(k, n))
		}
		for to := -1; to <= last; to++ {
			l = append(l, clShrink(k, to), clExpand(k, to))
			for _, n := range []int{-1, 0, 1, 2, 30, 31} {
				l = append(l, clFetch(k, to, n))
			}
		}
	}
	return append(l, strayClusterSteps()...)
}

// strayClusterSteps have a number in a field for which they have no use, or are of no
// kind.
func strayClusterSteps() []impl.ClusterStep {
	var l []impl.ClusterStep
	for k := range 4 {
		for _, n := range []int{-1, 1, 2, 3, 30} {
			for _, kind := range []int{impl.ClElect, impl.ClLearn, impl.ClTell} {
				l = append(l, impl.ClusterStep{Kind: kind, K: k, To: n}, impl.ClusterStep{Kind: kind, K: k, N: n})
			}
			l = append(l, impl.ClusterStep{Kind: impl.ClAppend, K: k, To: n, N: 5})
			for to := range 4 {
				l = append(l, impl.ClusterStep{Kind: impl.ClShrink, K: k, To: to, N: n}, impl.ClusterStep{Kind: impl.ClExpand, K: k, To: to, N: n})
			}
		}
		for _, kind := range []int{-7, -1, 0, 8, 100} {
			l = append(l, impl.ClusterStep{Kind: kind, K: k}, impl.ClusterStep{Kind: kind, K: k, To: 1}, impl.ClusterStep{Kind: kind, K: k, N: 1})
		}
	}
	return l
}

// someLeader is one that thinks that it leads, where there is one.
func someLeader(r *rand.Rand, now impl.Cluster) int {
	l, _ := plainThinkLead(now)
	if len(l) == 0 || r.IntN(8) == 0 {
		return now.Truth.Leader
	}
	return l[r.IntN(len(l))]
}

// randomClusterStep is one that mostly can be done.
func randomClusterStep(r *rand.Rand, now impl.Cluster) impl.ClusterStep {
	k, lead := r.IntN(len(now.Nodes)), someLeader(r, now)
	switch r.IntN(24) {
	case 0:
		return clElect(now.Truth.InStep[r.IntN(len(now.Truth.InStep))])
	case 1:
		return clElect(k)
	case 2, 3, 4:
		return clLearn(k)
	case 5, 6, 7, 8:
		return clAppend(lead, r.IntN(100))
	case 9, 10, 11, 12:
		return clFetch(k, lead, r.IntN(4))
	case 13, 14, 15:
		return clFetch(k, lead, 30)
	case 16:
		return clShrink(lead, k)
	case 17, 18, 19:
		return clExpand(lead, k)
	case 20, 21, 22:
		return clTell(lead)
	}
	return impl.ClusterStep{Kind: r.IntN(9), K: r.IntN(6) - 1, To: r.IntN(6) - 1, N: r.IntN(5) - 1}
}

// randomClusterSteps are such steps, each for where those ahead of it lead.
func randomClusterSteps(r *rand.Rand, nodes, many int) []impl.ClusterStep {
	now := plainCluster(nodes)
	var l []impl.ClusterStep
	for range many {
		x := randomClusterStep(r, now)
		l = append(l, x)
		if next, done := plainClusterStep(now, x); done {
			now = next
		}
	}
	return l
}

// randomCluster is one that steps lead to.
func randomCluster(r *rand.Rand) impl.Cluster {
	nodes := 2 + r.IntN(3)
	c, _, _ := plainClusterPlay(nodes, randomClusterSteps(r, nodes, r.IntN(101)))
	return c
}

// anyView has a leader that is in step, and others by chance.
func anyView(r *rand.Rand, nodes, epoch, leader int) impl.View {
	some := r.IntN(1<<nodes) | 1<<leader
	return impl.View{Epoch: epoch, Leader: leader, InStep: listOf(some)}
}

// upToEpoch are the first rows of no later Epoch.
func upToEpoch(l []impl.Row, epoch int) []impl.Row {
	many := 0
	for many < len(l) && l[many].Epoch <= epoch {
		many++
	}
	return l[:many]
}

// anyLog begins with so many of such rows at least, and then goes on by itself.
func anyLog(r *rand.Rand, base []impl.Row, least, epoch int) []impl.Row {
	l := slices.Clone(base[:least+r.IntN(len(base)-least+1)])
	for range max(0, r.IntN(5)-1) {
		from := 0
		if len(l) > 0 {
			from = l[len(l)-1].Epoch
		}
		l = append(l, impl.Row{Epoch: from + r.IntN(epoch-from+1), Value: r.IntN(2)})
	}
	return l
}

// anyNode begins with so many of such rows at least; what it knows and has told has
// nothing to do with how it came.
func anyNode(r *rand.Rand, k int, v impl.View, nodes int, base []impl.Row, least int) impl.Node {
	n := impl.Node{View: v, Known: make([]int, nodes)}
	n.Log = anyLog(r, upToEpoch(base, v.Epoch), least, v.Epoch)
	if v.Leader == k {
		for other := range n.Known {
			n.Known[other] = r.IntN(len(n.Log) + 1)
		}
	}
	n.Told = min(r.IntN(len(n.Log)+1), r.IntN(len(n.Log)+1))
	return n
}

// anyCluster is good by chance alone.
func anyCluster(r *rand.Rand) impl.Cluster {
	nodes, epoch := 2+r.IntN(3), r.IntN(4)
	leader := r.IntN(nodes)
	c := impl.Cluster{Truth: anyView(r, nodes, epoch, leader)}
	base := anyRows(r, rows(0, 0, 1, 2)[:2+min(2, epoch)], epoch)
	views := make([]impl.View, nodes)
	acked := len(base)
	for k := range views {
		switch {
		case epoch > 0 && r.IntN(3) == 0:
			views[k] = anyView(r, nodes, r.IntN(epoch), r.IntN(nodes))
		case r.IntN(3) == 0:
			views[k] = anyView(r, nodes, epoch, leader)
		default:
			views[k] = copyOfView(c.Truth)
		}
		if slices.Contains(c.Truth.InStep, k) {
			acked = min(acked, len(upToEpoch(base, views[k].Epoch)))
		}
	}
	acked = r.IntN(acked + 1)
	c.Acked = slices.Clone(base[:acked])
	for k, v := range views {
		least := 0
		if slices.Contains(c.Truth.InStep, k) {
			least = acked
		}
		c.Nodes = append(c.Nodes, anyNode(r, k, v, nodes, base, least))
	}
	return c
}

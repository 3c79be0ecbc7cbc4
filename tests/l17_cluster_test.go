package tests

import (
	"fmt"
	"math"
	"slices"
	"testing"

	"loop.example/g00361/impl"
)

// Chapter 17, function by function and step by step. That what was acknowledged stays
// stands in l17_acked_test.go.

// wantCluster holds all answers of a cluster but its steps against what the plain words
// tell.
func wantCluster(t *testing.T, why string, c impl.Cluster) {
	t.Helper()
	if got, want := impl.GoodCluster(c), plainClusterGood(c); got != want {
		t.Errorf("%s: GoodCluster %v: %v", why, c, got)
	}
	behind, wanted := plainBehindIn(c)
	if got, ok := impl.BehindIn(c); !slices.Equal(got, behind) || ok != wanted {
		t.Errorf("%s: BehindIn %v: %v %v", why, c, got, ok)
	}
	think, wanted := plainThinkLead(c)
	if got, ok := impl.ThinkLead(c); !slices.Equal(got, think) || ok != wanted {
		t.Errorf("%s: ThinkLead %v: %v %v", why, c, got, ok)
	}
	settled, wanted := plainSettleCluster(c)
	got, ok := impl.SettleCluster(c)
	if !sameCluster(got, settled) || ok != wanted {
		t.Errorf("%s: SettleCluster %v: %v %v", why, c, got, ok)
	}
	if ok && !impl.GoodCluster(got) {
		t.Errorf("%s: SettleCluster %v: not good: %v", why, c, got)
	}
}

// wantClusterStep does so of a step, and tells where it leads.
func wantClusterStep(t *testing.T, why string, c impl.Cluster, x impl.ClusterStep) (impl.Cluster, bool) {
	t.Helper()
	want, wanted := plainClusterStep(c, x)
	got, ok := impl.StepCluster(c, x)
	if !sameCluster(got, want) || ok != wanted {
		t.Errorf("%s: StepCluster %v %v: %v %v", why, c, x, got, ok)
	}
	if ok && !impl.GoodCluster(got) {
		t.Errorf("%s: StepCluster %v %v: not good: %v", why, c, x, got)
	}
	return got, ok
}

func wantClusterSteps(t *testing.T, why string, c impl.Cluster) {
	t.Helper()
	wantCluster(t, why, c)
	for _, x := range clusterStepsOn(c) {
		wantClusterStep(t, why, c, x)
	}
}

// wantClusterChanged asks of a step that it leads to a cluster as the change tells.
func wantClusterChanged(t *testing.T, why string, c impl.Cluster, x impl.ClusterStep, change func(c *impl.Cluster)) {
	t.Helper()
	want := copyOfCluster(c)
	change(&want)
	if got, ok := impl.StepCluster(c, x); !ok || !sameCluster(got, want) || !impl.GoodCluster(got) {
		t.Errorf("%s: StepCluster %v %v: %v %v", why, c, x, got, ok)
	}
}

// wantNoClusterStep asks that nothing is handed out of a step of a good cluster.
func wantNoClusterStep(t *testing.T, why string, c impl.Cluster, x impl.ClusterStep) {
	t.Helper()
	if !impl.GoodCluster(c) {
		t.Errorf("%s: not good: %v", why, c)
	}
	if got, ok := impl.StepCluster(c, x); ok || !sameCluster(got, impl.Cluster{}) {
		t.Errorf("%s: StepCluster %v %v: %v %v", why, c, x, got, ok)
	}
}

func wantClusterPlay(t *testing.T, why string, nodes int, l []impl.ClusterStep) {
	t.Helper()
	want, wantDid, wanted := plainClusterPlay(nodes, l)
	got, did, ok := impl.PlayCluster(nodes, l)
	if !sameCluster(got, want) || !slices.Equal(did, wantDid) || ok != wanted {
		t.Errorf("%s: PlayCluster %d %v: %v %v %v", why, nodes, l, got, did, ok)
	}
}

func TestTheNamedNumbersOfClusters(t *testing.T) {
	got := []int{impl.MaxNodes, impl.MaxClusterSteps, impl.ClElect, impl.ClLearn, impl.ClAppend, impl.ClFetch, impl.ClShrink, impl.ClExpand, impl.ClTell}
	if !slices.Equal(got, []int{4, 100, 1, 2, 3, 4, 5, 6, 7}) {
		t.Error(got)
	}
}

func TestNewCluster(t *testing.T) {
	for nodes := 2; nodes <= 4; nodes++ {
		all := steps(nodes, 0, 1)
		c, ok := impl.NewCluster(nodes)
		if !ok || !sameView(c.Truth, impl.View{InStep: all}) || len(c.Nodes) != nodes || len(c.Acked) != 0 || !impl.GoodCluster(c) {
			t.Error(nodes, c, ok)
		}
		for k, n := range c.Nodes {
			if !sameNode(n, impl.Node{View: impl.View{InStep: all}, Known: make([]int, nodes)}) {
				t.Error(nodes, k, n)
			}
		}
	}
	for _, nodes := range []int{-2, -1, 0, 1, 5, 6} {
		if c, ok := impl.NewCluster(nodes); ok || !sameCluster(c, impl.Cluster{}) {
			t.Error(nodes, c, ok)
		}
	}
}

// lateLeaders is a cluster of four. 1 leads, and 2, in step with it, thinks that 3 is so,
// too. 0 led in the epoch ahead, and still thinks so; 3 fetches from it.
func lateLeaders() impl.Cluster {
	return impl.Cluster{
		Truth: impl.View{Epoch: 4, Leader: 1, InStep: []int{1, 2}},
		Nodes: []impl.Node{
			{View: elderView(), Log: rows(1, 1, 2, 2, 3), Known: []int{5, 2, 1, 0}, Told: 1},
			{View: impl.View{Epoch: 4, Leader: 1, InStep: []int{1, 2}}, Log: rows(1, 1, 3, 4), Known: []int{1, 4, 3, 1}, Told: 2},
			{View: impl.View{Epoch: 4, Leader: 1, InStep: []int{1, 2, 3}}, Log: rows(1, 1, 3), Known: make([]int, 4), Told: 1},
			{View: elderView(), Log: rows(1), Known: make([]int, 4)},
		},
		Acked: rows(1, 1),
	}
}

func elderView() impl.View {
	return impl.View{Epoch: 3, Leader: 0, InStep: []int{0, 1, 2}}
}

func changedCluster(change func(c *impl.Cluster)) impl.Cluster {
	c := lateLeaders()
	change(&c)
	return c
}

// fullCluster has logs of as many rows as may be, in the last epoch.
func fullCluster() impl.Cluster {
	c := plainCluster(3)
	c.Truth = impl.View{Epoch: 100, Leader: 2, InStep: []int{0, 2}}
	for k := range c.Nodes {
		c.Nodes[k] = impl.Node{View: copyOfView(c.Truth), Log: manyRows(30, 7), Known: make([]int, 3), Told: 30}
	}
	c.Nodes[1].Log[29].Value = 0
	c.Nodes[2].Known = []int{30, 29, 30}
	c.Acked = manyRows(30, 7)
	return c
}

func someClusters() map[string]impl.Cluster {
	all := map[string]impl.Cluster{
		"new, of two":     plainCluster(2),
		"new, of three":   plainCluster(3),
		"new, of four":    plainCluster(4),
		"late leaders":    lateLeaders(),
		"full":            fullCluster(),
		"acked":           clusterAfter(plainCluster(2), clAppend(0, 7), clFetch(1, 0, 1), clTell(0)),
		"led anew":        clusterAfter(plainCluster(3), clAppend(0, 7), clFetch(1, 0, 1), clElect(1)),
		"none leads":      clusterAfter(plainCluster(3), clElect(1), clLearn(0), clLearn(2)),
		"all think so":    threeThinkThatTheyLead(),
		"nobody knows it": clusterAfter(plainCluster(3), clElect(2)),
	}
	for why, change := range goodClusterChanges() {
		all[why] = changedCluster(change)
	}
	return all
}

func threeThinkThatTheyLead() impl.Cluster {
	return clusterAfter(plainCluster(3), clElect(1), clLearn(1), clElect(2), clLearn(2))
}

// goodClusterChanges each leave lateLeaders good.
func goodClusterChanges() map[string]func(c *impl.Cluster) {
	return map[string]func(c *impl.Cluster){
		"two nodes":                         func(c *impl.Cluster) { *c = ofTwo(*c) },
		"the Truth's Epoch one more":        func(c *impl.Cluster) { c.Truth.Epoch = 5 },
		"the Truth's Epoch MaxEpoch":        func(c *impl.Cluster) { c.Truth.Epoch = 100 },
		"the Truth's Epoch of another one":  func(c *impl.Cluster) { c.Truth.Epoch, c.Truth.Leader = 5, 2 },
		"all of Epoch 0":                    func(c *impl.Cluster) { *c = ofEpoch(*c, 0) },
		"all of MaxEpoch":                   func(c *impl.Cluster) { *c = ofEpoch(*c, 100) },
		"the leader alone in step":          func(c *impl.Cluster) { c.Truth.InStep = []int{1} },
		"an elder one in step":              func(c *impl.Cluster) { c.Truth.InStep = []int{0, 1, 2} },
		"all in step":                       func(c *impl.Cluster) { c.Truth.InStep, c.Acked = []int{0, 1, 2, 3}, rows(1) },
		"a View of Epoch 0":                 func(c *impl.Cluster) { c.Nodes[3] = impl.Node{View: plainFirstView(4), Known: make([]int, 4)} },
		"elder Views with other leaders":    func(c *impl.Cluster) { c.Nodes[3].View = impl.View{Epoch: 3, Leader: 2, InStep: []int{2}} },
		"two lead in one elder Epoch":       func(c *impl.Cluster) { c.Nodes[3].View = impl.View{Epoch: 3, Leader: 3, InStep: []int{3}} },
		"a leader's View with others":       func(c *impl.Cluster) { c.Nodes[1].View.InStep = []int{0, 1, 3} },
		"the leader does not know it":       func(c *impl.Cluster) { c.Nodes[1] = elderNode(rows(1, 1, 3), 2) },
		"no rows behind":                    func(c *impl.Cluster) { c.Nodes[3].Log = nil },
		"no rows at all":                    func(c *impl.Cluster) { *c = withoutRows(*c) },
		"MaxRows rows":                      func(c *impl.Cluster) { c.Nodes[3].Log = manyRows(30, 3) },
		"MaxRows rows that are led":         func(c *impl.Cluster) { *c = rowsLed(*c, 30) },
		"MaxRows rows but one, led":         func(c *impl.Cluster) { *c = rowsLed(*c, 29) },
		"a row of Epoch 0":                  func(c *impl.Cluster) { c.Nodes[3].Log[0].Epoch = 0 },
		"a row of its View's Epoch":         func(c *impl.Cluster) { c.Nodes[2].Log[2].Epoch = 4 },
		"an elder row of its View's Epoch":  func(c *impl.Cluster) { c.Nodes[3].Log[0].Epoch = 3 },
		"a Value of 0":                      func(c *impl.Cluster) { c.Nodes[0].Log[4].Value = 0 },
		"a Value of 99":                     func(c *impl.Cluster) { c.Nodes[0].Log[4].Value = 99 },
		"a leader's Value of 99":            func(c *impl.Cluster) { c.Nodes[1].Log[3].Value = 99 },
		"a Known of 0":                      func(c *impl.Cluster) { c.Nodes[1].Known[2] = 0 },
		"a Known of its Log's length":       func(c *impl.Cluster) { c.Nodes[1].Known[0] = 4 },
		"a Known of all its own":            func(c *impl.Cluster) { c.Nodes[1].Known = []int{4, 4, 4, 4} },
		"its own Known of 0":                func(c *impl.Cluster) { c.Nodes[1].Known[1] = 0 },
		"an elder one's Known of all":       func(c *impl.Cluster) { c.Nodes[0].Known = []int{5, 5, 5, 5} },
		"a Told of 0":                       func(c *impl.Cluster) { c.Nodes[1].Told = 0 },
		"a Told of its Log's length":        func(c *impl.Cluster) { c.Nodes[1].Told = 4 },
		"an elder Told of the length":       func(c *impl.Cluster) { c.Nodes[0].Told = 5 },
		"a Told of one that does not lead":  func(c *impl.Cluster) { c.Nodes[2].Told = 3 },
		"nothing Acked":                     func(c *impl.Cluster) { c.Acked = nil },
		"Acked all that is in step":         func(c *impl.Cluster) { c.Acked = rows(1, 1, 3) },
		"Acked all of the leader alone":     func(c *impl.Cluster) { c.Truth.InStep, c.Acked = []int{1}, rows(1, 1, 3, 4) },
		"not in step another row":           func(c *impl.Cluster) { c.Nodes[3].Log[0].Value = 9 },
		"an elder leader that lacks rows":   func(c *impl.Cluster) { c.Nodes[0].Log, c.Nodes[0].Known, c.Nodes[0].Told = nil, make([]int, 4), 0 },
		"an elder leader with other rows":   func(c *impl.Cluster) { c.Nodes[0].Log[0].Value = 9 },
		"one in step with other rows later": func(c *impl.Cluster) { c.Nodes[2].Log[2].Value = 9 },
	}
}

func ofTwo(c impl.Cluster) impl.Cluster {
	c.Truth.InStep = []int{1}
	c.Nodes = c.Nodes[:2]
	c.Nodes[0].View.InStep, c.Nodes[0].Known = []int{0, 1}, []int{5, 2}
	c.Nodes[1].View.InStep, c.Nodes[1].Known = []int{0, 1}, []int{1, 4}
	return c
}

// ofEpoch has one epoch everywhere, and one leader.
func ofEpoch(c impl.Cluster, epoch int) impl.Cluster {
	c.Truth.Epoch = epoch
	for k := range c.Nodes {
		n := &c.Nodes[k]
		n.View = copyOfView(c.Truth)
		for i := range n.Log {
			n.Log[i].Epoch = epoch
		}
		if k != 1 {
			n.Known = make([]int, 4)
		}
	}
	for i := range c.Acked {
		c.Acked[i].Epoch = epoch
	}
	return c
}

// elderNode follows 0 in the epoch ahead.
func elderNode(log []impl.Row, told int) impl.Node {
	return impl.Node{View: elderView(), Log: log, Known: make([]int, 4), Told: told}
}

func withoutRows(c impl.Cluster) impl.Cluster {
	for k := range c.Nodes {
		c.Nodes[k].Log, c.Nodes[k].Known, c.Nodes[k].Told = nil, make([]int, 4), 0
	}
	c.Acked = nil
	return c
}

// rowsLed has so many rows of the leader, who is in step alone.
func rowsLed(c impl.Cluster, many int) impl.Cluster {
	c.Truth.InStep = []int{1}
	c.Nodes[1] = impl.Node{View: copyOfView(c.Truth), Log: manyRows(many, 4), Known: []int{0, many, 0, 0}}
	c.Acked = manyRows(many, 4)
	return c
}

func badClusters() map[string]impl.Cluster {
	all := map[string]impl.Cluster{
		"nothing at all":              {},
		"no node":                     plainCluster(0),
		"one node":                    plainCluster(1),
		"five nodes":                  plainCluster(5),
		"five, four of them in step":  withFifth(plainCluster(4)),
		"no node, a leader in step":   {Truth: impl.View{InStep: []int{0}}},
		"two nodes that know nothing": {Truth: plainFirstView(2), Nodes: make([]impl.Node, 2)},
		"a row Acked that none has":   {Truth: plainFirstView(2), Nodes: plainCluster(2).Nodes, Acked: rows(0)},
	}
	for why, change := range badClusterChanges() {
		all[why] = changedCluster(change)
	}
	for why, change := range badViewChanges() {
		all["the Truth: "+why] = changedCluster(func(c *impl.Cluster) { change(&c.Truth) })
		for k := range 4 {
			all[fmt.Sprint("the View ", k, ": ", why)] = changedCluster(func(c *impl.Cluster) { change(&c.Nodes[k].View) })
		}
	}
	for why, l := range badRows() {
		for k := range 4 {
			all[fmt.Sprint("a log ", k, ": ", why)] = changedCluster(func(c *impl.Cluster) { *c = rowsOf(*c, k, l) })
			all[fmt.Sprint("of MaxEpoch, a log ", k, ": ", why)] = changedCluster(func(c *impl.Cluster) { *c = rowsOf(ofEpoch(*c, 100), k, l) })
		}
		all["Acked: "+why] = changedCluster(func(c *impl.Cluster) { c.Acked = l })
		all["Acked and in all logs: "+why] = changedCluster(func(c *impl.Cluster) {
			*c = withoutRows(ofEpoch(*c, 100))
			for k := range c.Nodes {
				c.Nodes[k].Log = l
			}
			c.Acked = l
		})
	}
	return all
}

func withFifth(c impl.Cluster) impl.Cluster {
	for k := range c.Nodes {
		c.Nodes[k].Known = make([]int, 5)
	}
	c.Nodes = append(c.Nodes, c.Nodes[1])
	return c
}

// rowsOf has such rows in one log, and none in any other.
func rowsOf(c impl.Cluster, k int, l []impl.Row) impl.Cluster {
	c = withoutRows(c)
	c.Nodes[k].Log = l
	return c
}

// badViewChanges each spoil a view of lateLeaders by one thing.
func badViewChanges() map[string]func(v *impl.View) {
	return map[string]func(v *impl.View){
		"an Epoch of -1":                   func(v *impl.View) { v.Epoch = -1 },
		"an Epoch of 101":                  func(v *impl.View) { v.Epoch = 101 },
		"a Leader of -1":                   func(v *impl.View) { v.Leader = -1 },
		"a Leader that is no node":         func(v *impl.View) { v.Leader = 4 },
		"a Leader of -1, and InStep":       func(v *impl.View) { v.Leader, v.InStep = -1, []int{-1, 1, 2} },
		"a Leader that is no node, InStep": func(v *impl.View) { v.Leader, v.InStep = 4, []int{1, 2, 4} },
		"a Leader of 64, and InStep":       func(v *impl.View) { v.Leader, v.InStep = 64, []int{1, 2, 64} },
		"the Leader not InStep":            func(v *impl.View) { v.InStep = slices.Delete(steps(4, 0, 1), v.Leader, v.Leader+1) },
		"nobody InStep":                    func(v *impl.View) { v.InStep = nil },
		"an empty InStep":                  func(v *impl.View) { v.InStep = []int{} },
		"an InStep that falls":             func(v *impl.View) { v.InStep = []int{2, 1, 0} },
		"one InStep twice":                 func(v *impl.View) { v.InStep = append(v.InStep, 2, 2) },
		"the first InStep twice":           func(v *impl.View) { v.InStep = slices.Insert(v.InStep, 0, v.InStep[0]) },
		"-1 InStep":                        func(v *impl.View) { v.InStep = slices.Insert(v.InStep, 0, -1) },
		"no node InStep":                   func(v *impl.View) { v.InStep = append(v.InStep, 4) },
		"64 InStep":                        func(v *impl.View) { v.InStep = append(v.InStep, 64) },
	}
}

// badClusterChanges each spoil lateLeaders by one thing.
func badClusterChanges() map[string]func(c *impl.Cluster) {
	all := map[string]func(c *impl.Cluster){
		"one node left":                     func(c *impl.Cluster) { *c = rowsLed(*c, 1); c.Nodes = c.Nodes[1:2] },
		"a node more":                       func(c *impl.Cluster) { c.Nodes = append(c.Nodes, c.Nodes[3]) },
		"a node less":                       func(c *impl.Cluster) { c.Nodes = c.Nodes[:3] },
		"the Truth's Epoch one less":        func(c *impl.Cluster) { c.Truth.Epoch = 3 },
		"another leader in the Truth":       func(c *impl.Cluster) { c.Truth.Leader = 2 },
		"an elder View of one more":         func(c *impl.Cluster) { c.Nodes[3].View.Epoch = 5 },
		"a leader's View of one more":       func(c *impl.Cluster) { c.Nodes[1].View.Epoch = 5 },
		"a View of the Epoch, not led so":   func(c *impl.Cluster) { c.Nodes[3].View.Epoch = 4 },
		"an elder leader of the Epoch":      func(c *impl.Cluster) { c.Nodes[0].View.Epoch = 4 },
		"a View that has itself as leader":  func(c *impl.Cluster) { c.Nodes[2].View.Leader = 2 },
		"a row above its View's Epoch":      func(c *impl.Cluster) { c.Nodes[3].Log[0].Epoch = 4 },
		"a leader's row above it":           func(c *impl.Cluster) { c.Nodes[1].Log[3].Epoch = 5 },
		"an elder leader's row above it":    func(c *impl.Cluster) { c.Nodes[0].Log[4].Epoch = 4 },
		"a View below its rows":             func(c *impl.Cluster) { c.Nodes[0].View.Epoch = 2 },
		"Known of one that does not lead":   func(c *impl.Cluster) { c.Nodes[2].Known[2] = 1 },
		"Known of the leader, by another":   func(c *impl.Cluster) { c.Nodes[2].Known[1] = 1 },
		"an elder Known of one of no lead":  func(c *impl.Cluster) { c.Nodes[3].Known[0] = 1 },
		"Known where it leads no more":      func(c *impl.Cluster) { c.Nodes[0].View.Leader = 1 },
		"Told of the length and one":        func(c *impl.Cluster) { c.Nodes[1].Told = 5 },
		"an elder Told of one more":         func(c *impl.Cluster) { c.Nodes[0].Told = 6 },
		"a Told of one more, of no lead":    func(c *impl.Cluster) { c.Nodes[2].Told = 4 },
		"a Told of no rows":                 func(c *impl.Cluster) { c.Nodes[3].Log, c.Nodes[3].Told = nil, 1 },
		"one in step lacks a row of Acked":  func(c *impl.Cluster) { c.Nodes[2].Log = rows(1) },
		"one in step lacks all":             func(c *impl.Cluster) { c.Nodes[2].Log, c.Nodes[2].Told = nil, 0 },
		"one in step has another first row": func(c *impl.Cluster) { c.Nodes[2].Log[0].Value = 9 },
		"one in step has another row":       func(c *impl.Cluster) { c.Nodes[2].Log[1].Value = 9 },
		"one in step has another Epoch":     func(c *impl.Cluster) { c.Nodes[2].Log[1].Epoch = 2 },
		"the leader has another row":        func(c *impl.Cluster) { c.Nodes[1].Log[1].Value = 9 },
		"one too short comes in step":       func(c *impl.Cluster) { c.Truth.InStep = []int{1, 2, 3} },
		"all in step, one too short":        func(c *impl.Cluster) { c.Truth.InStep = []int{0, 1, 2, 3} },
		"Acked more than 2 has":             func(c *impl.Cluster) { c.Acked = rows(1, 1, 3, 4) },
		"Acked what 0 alone has":            func(c *impl.Cluster) { c.Acked = rows(1, 1, 2) },
		"Acked MaxRows and one":             func(c *impl.Cluster) { *c = rowsLed(*c, 30); c.Acked = manyRows(31, 4) },
		"Acked and led MaxRows and one":     func(c *impl.Cluster) { *c = rowsLed(*c, 31) },
		"Acked that none has":               func(c *impl.Cluster) { *c = withoutRows(*c); c.Acked = rows(1) },
	}
	for k := range 4 {
		all[fmt.Sprint("a number Known fewer: ", k)] = func(c *impl.Cluster) { c.Nodes[k].Known = c.Nodes[k].Known[:3] }
		all[fmt.Sprint("a number Known more: ", k)] = func(c *impl.Cluster) { c.Nodes[k].Known = append(c.Nodes[k].Known, 0) }
		all[fmt.Sprint("nothing Known: ", k)] = func(c *impl.Cluster) { c.Nodes[k].Known = nil }
		all[fmt.Sprint("a Told of -1: ", k)] = func(c *impl.Cluster) { c.Nodes[k].Told = -1 }
		for other := range 4 {
			all[fmt.Sprint("a Known of -1: ", k, " of ", other)] = func(c *impl.Cluster) { c.Nodes[k].Known[other] = -1 }
			all[fmt.Sprint("a Known above the log: ", k, " of ", other)] = func(c *impl.Cluster) { c.Nodes[k].Known[other] = len(c.Nodes[k].Log) + 1 }
		}
	}
	return all
}

func TestGoodClusters(t *testing.T) {
	for why, c := range someClusters() {
		if !impl.GoodCluster(c) || !plainClusterGood(c) {
			t.Error(why, c)
		}
		wantClusterSteps(t, why, c)
	}
}

func TestBadClusters(t *testing.T) {
	for why, c := range badClusters() {
		if impl.GoodCluster(c) || plainClusterGood(c) {
			t.Error(why, c)
		}
		for _, x := range clusterStepsOn(c) {
			if got, ok := impl.StepCluster(c, x); ok || !sameCluster(got, impl.Cluster{}) {
				t.Error(why, x, got, ok)
			}
		}
		if l, ok := impl.BehindIn(c); ok || len(l) != 0 {
			t.Error(why, l, ok)
		}
		if l, ok := impl.ThinkLead(c); ok || len(l) != 0 {
			t.Error(why, l, ok)
		}
		if got, ok := impl.SettleCluster(c); ok || !sameCluster(got, impl.Cluster{}) {
			t.Error(why, got, ok)
		}
	}
}

func TestClusterElect(t *testing.T) {
	c := lateLeaders()
	wantClusterChanged(t, "another one in step", c, clElect(2), func(c *impl.Cluster) { c.Truth.Epoch, c.Truth.Leader = 5, 2 })
	wantClusterChanged(t, "the leader itself", c, clElect(1), func(c *impl.Cluster) { c.Truth.Epoch = 5 })
	wantNoClusterStep(t, "one who is not in step, though it thinks that it leads", c, clElect(0))
	wantNoClusterStep(t, "one who is not in step", c, clElect(3))
	for _, k := range []int{math.MinInt, -1, 4, 5, math.MaxInt} {
		wantNoClusterStep(t, "one who is not there", c, clElect(k))
	}
	c.Nodes[1].View.InStep = []int{0, 1, 3}
	wantNoClusterStep(t, "in step by the leader's View alone", c, clElect(0))
	wantClusterChanged(t, "not in step by the leader's View", c, clElect(2), func(c *impl.Cluster) { c.Truth.Epoch, c.Truth.Leader = 5, 2 })
	for k := 1; k <= 2; k++ {
		c := lateLeaders()
		c.Truth.Epoch = 99
		wantClusterChanged(t, "the last Epoch", c, clElect(k), func(c *impl.Cluster) { c.Truth.Epoch, c.Truth.Leader = 100, k })
		c.Truth.Epoch = 100
		wantNoClusterStep(t, "one more", c, clElect(k))
	}
}

func TestClusterLearn(t *testing.T) {
	c := lateLeaders()
	truth := copyOfView(c.Truth)
	wantNoClusterStep(t, "its View is the Truth", c, clLearn(1))
	wantClusterChanged(t, "another Epoch, it led", c, clLearn(0), func(c *impl.Cluster) {
		c.Nodes[0].View, c.Nodes[0].Known, c.Nodes[0].Told = truth, make([]int, 4), 0
	})
	wantClusterChanged(t, "one Epoch, another InStep", c, clLearn(2), func(c *impl.Cluster) { c.Nodes[2].View = truth })
	wantClusterChanged(t, "another Epoch", c, clLearn(3), func(c *impl.Cluster) { c.Nodes[3].View = truth })
	c.Nodes[3].Told = 1
	wantClusterChanged(t, "what it told", c, clLearn(3), func(c *impl.Cluster) { c.Nodes[3].View, c.Nodes[3].Told = truth, 0 })
	for _, k := range []int{math.MinInt, -1, 4, 5, math.MaxInt} {
		wantNoClusterStep(t, "one who is not there", c, clLearn(k))
	}
	for k := range 4 {
		wantNoClusterStep(t, "what is learnt already", clusterAfter(lateLeaders(), clLearn(0), clLearn(2), clLearn(3)), clLearn(k))
	}
}

func TestClusterLearnWhereItLeads(t *testing.T) {
	c := lateLeaders()
	c.Nodes[1].View.InStep = []int{1, 3}
	wantClusterChanged(t, "one Epoch: it goes on", c, clLearn(1), func(c *impl.Cluster) { c.Nodes[1].View.InStep = []int{1, 2} })
	again := clusterAfter(lateLeaders(), clElect(1))
	wantClusterChanged(t, "it leads once more", again, clLearn(1), func(c *impl.Cluster) {
		c.Nodes[1].View, c.Nodes[1].Known, c.Nodes[1].Told = copyOfView(c.Truth), []int{0, 4, 0, 0}, 0
	})
	other := clusterAfter(lateLeaders(), clElect(2))
	wantClusterChanged(t, "it leads now", other, clLearn(2), func(c *impl.Cluster) {
		c.Nodes[2].View, c.Nodes[2].Known, c.Nodes[2].Told = copyOfView(c.Truth), []int{0, 0, 3, 0}, 0
	})
	wantClusterChanged(t, "it leads no more", other, clLearn(1), func(c *impl.Cluster) {
		c.Nodes[1].View, c.Nodes[1].Known, c.Nodes[1].Told = copyOfView(c.Truth), make([]int, 4), 0
	})
	same := lateLeaders()
	same.Truth.Epoch, same.Nodes[1].View.Epoch, same.Nodes[1].Log = 5, 4, rows(1, 1, 3, 3)
	wantClusterChanged(t, "nothing but the Epoch is another one", same, clLearn(1), func(c *impl.Cluster) {
		c.Nodes[1].View.Epoch, c.Nodes[1].Known, c.Nodes[1].Told = 5, []int{0, 4, 0, 0}, 0
	})
	empty := clusterAfter(plainCluster(2), clElect(1))
	wantClusterChanged(t, "no rows", empty, clLearn(1), func(c *impl.Cluster) { c.Nodes[1].View = copyOfView(c.Truth) })
}

func TestClusterAppend(t *testing.T) {
	c := lateLeaders()
	for _, n := range []int{0, 1, 98, 99} {
		wantClusterChanged(t, "the leader", c, clAppend(1, n), func(c *impl.Cluster) {
			c.Nodes[1].Log, c.Nodes[1].Known[1] = append(c.Nodes[1].Log, impl.Row{Epoch: 4, Value: n}), 5
		})
		wantClusterChanged(t, "an elder leader", c, clAppend(0, n), func(c *impl.Cluster) {
			c.Nodes[0].Log, c.Nodes[0].Known[0] = append(c.Nodes[0].Log, impl.Row{Epoch: 3, Value: n}), 6
		})
		for _, k := range []int{2, 3} {
			wantNoClusterStep(t, "one that does not think that it leads", c, clAppend(k, n))
		}
		for _, k := range []int{math.MinInt, -1, 4, 5, math.MaxInt} {
			wantNoClusterStep(t, "one who is not there", c, clAppend(k, n))
		}
	}
	for _, n := range []int{math.MinInt, -2, -1, 100, 101, math.MaxInt} {
		wantNoClusterStep(t, "a Value beyond its limits", c, clAppend(1, n))
		wantNoClusterStep(t, "an elder leader's", c, clAppend(0, n))
	}
	c.Nodes[1].Known[1] = 0
	wantClusterChanged(t, "its own Known is all", c, clAppend(1, 9), func(c *impl.Cluster) {
		c.Nodes[1].Log, c.Nodes[1].Known[1] = append(c.Nodes[1].Log, impl.Row{Epoch: 4, Value: 9}), 5
	})
	elected := clusterAfter(lateLeaders(), clElect(2))
	wantNoClusterStep(t, "the leader, which does not know it yet", elected, clAppend(2, 5))
	wantClusterChanged(t, "once it knows it", clusterAfter(elected, clLearn(2)), clAppend(2, 5), func(c *impl.Cluster) {
		c.Nodes[2].Log, c.Nodes[2].Known[2] = append(c.Nodes[2].Log, impl.Row{Epoch: 5, Value: 5}), 4
	})
	for many := range 31 {
		c := changedCluster(func(c *impl.Cluster) { *c = rowsLed(*c, many) })
		if many == 30 {
			wantNoClusterStep(t, "no room", c, clAppend(1, 5))
			continue
		}
		wantClusterChanged(t, "with room", c, clAppend(1, 5), func(c *impl.Cluster) {
			c.Nodes[1].Log, c.Nodes[1].Known[1] = append(c.Nodes[1].Log, impl.Row{Epoch: 4, Value: 5}), many+1
		})
	}
}

// wantFetched asks that a node has so many of another one's rows then.
func wantFetched(t *testing.T, why string, c impl.Cluster, k, to, n, many int) {
	t.Helper()
	wantClusterChanged(t, why, c, clFetch(k, to, n), func(c *impl.Cluster) {
		c.Nodes[k].Log, c.Nodes[k].Told = slices.Clone(c.Nodes[to].Log[:many]), 0
		c.Nodes[to].Known[k] = many
	})
}

func TestClusterFetch(t *testing.T) {
	c := lateLeaders()
	for _, n := range []int{0, 1, 2, 3, 4, 5, 29, 30} {
		wantFetched(t, "from the leader", c, 2, 1, n, min(4, 3+n))
		wantFetched(t, "from an elder one", c, 3, 0, n, min(5, 1+n))
		for k := range 4 {
			wantNoClusterStep(t, "from oneself", c, clFetch(k, k, n))
			wantNoClusterStep(t, "from one that does not lead", c, clFetch(k, 2, n))
			wantNoClusterStep(t, "from another one that does not lead", c, clFetch(k, 3, n))
		}
		wantNoClusterStep(t, "unlike Epochs, the elder one fetches", c, clFetch(3, 1, n))
		wantNoClusterStep(t, "unlike Epochs, from the elder one", c, clFetch(2, 0, n))
		wantNoClusterStep(t, "the leader from an elder one", c, clFetch(1, 0, n))
		wantNoClusterStep(t, "an elder one from the leader", c, clFetch(0, 1, n))
		for _, k := range []int{math.MinInt, -1, 4, 5, math.MaxInt} {
			wantNoClusterStep(t, "one who is not there", c, clFetch(k, 1, n))
			wantNoClusterStep(t, "from one who is not there", c, clFetch(2, k, n))
		}
	}
	for _, n := range []int{math.MinInt, -2, -1, 31, 32, math.MaxInt} {
		wantNoClusterStep(t, "so many can't be", c, clFetch(2, 1, n))
		wantNoClusterStep(t, "nor from an elder one", c, clFetch(3, 0, n))
	}
	learnt := clusterAfter(c, clLearn(0))
	wantFetched(t, "one that led, once it knows the Truth", learnt, 0, 1, 30, 4)
	wantNoClusterStep(t, "from one that leads no more", learnt, clFetch(3, 0, 30))
	elected := clusterAfter(c, clElect(2))
	wantFetched(t, "from who led, by who leads and does not know it", elected, 2, 1, 30, 4)
	wantNoClusterStep(t, "from who leads and does not know it", elected, clFetch(1, 2, 30))
}

func TestClusterFetchInOneElderEpoch(t *testing.T) {
	two := changedCluster(func(c *impl.Cluster) { c.Nodes[3].View = impl.View{Epoch: 3, Leader: 3, InStep: []int{3}} })
	wantNoClusterStep(t, "it thinks that it leads itself", two, clFetch(3, 0, 5))
	wantNoClusterStep(t, "and so does the other one", two, clFetch(0, 3, 5))
	third := changedCluster(func(c *impl.Cluster) { c.Nodes[3].View = impl.View{Epoch: 3, Leader: 2, InStep: []int{2}} })
	wantFetched(t, "it thinks that a third one leads", third, 3, 0, 5, 5)
}

func TestClusterFetchOfLogsThatPart(t *testing.T) {
	lead := []impl.Row{{Epoch: 0, Value: 1}, {Epoch: 0, Value: 2}, {Epoch: 2, Value: 3}, {Epoch: 2, Value: 4}}
	turnedAt := func(at int, to impl.Row) []impl.Row {
		l := slices.Clone(lead)
		l[at] = to
		return l
	}
	for _, x := range []struct {
		why    string
		log    []impl.Row
		shared int
	}{
		{"empty", nil, 0},
		{"its beginning, of one", lead[:1], 1},
		{"its beginning, of three", lead[:3], 3},
		{"the same", lead, 4},
		{"longer", append(slices.Clone(lead), impl.Row{Epoch: 2, Value: 5}), 4},
		{"the first Value", turnedAt(0, impl.Row{Epoch: 0, Value: 9}), 0},
		{"the second Value", turnedAt(1, impl.Row{Epoch: 0, Value: 9}), 1},
		{"the third Epoch", turnedAt(2, impl.Row{Epoch: 1, Value: 3}), 2},
		{"the last Value", turnedAt(3, impl.Row{Epoch: 2, Value: 9}), 3},
		{"the last Epoch", turnedAt(3, impl.Row{Epoch: 3, Value: 4}), 3},
		{"one left out", slices.Delete(slices.Clone(lead), 1, 2), 1},
		{"full and another", manyRows(30, 1), 0},
	} {
		c := plainCluster(2)
		c.Truth = impl.View{Epoch: 3, InStep: []int{0}}
		c.Nodes[0] = impl.Node{View: copyOfView(c.Truth), Log: lead, Known: []int{4, 0}, Told: 4}
		c.Nodes[1] = impl.Node{View: copyOfView(c.Truth), Log: x.log, Known: []int{0, 0}, Told: len(x.log)}
		c.Acked = lead
		for n := range 6 {
			wantFetched(t, x.why, c, 1, 0, n, min(4, x.shared+n))
		}
		c.Truth.Epoch++
		for n := range 6 {
			wantFetched(t, x.why+", from one that leads no more", c, 1, 0, n, min(4, x.shared+n))
		}
	}
}

// One in step keeps what is Acked: it does not fetch where a row of these would go.
func TestClusterFetchKeepsWhatIsAcked(t *testing.T) {
	late := changedCluster(func(c *impl.Cluster) { c.Nodes[2] = elderNode(rows(1, 1, 3), 0) })
	wantFetched(t, "what goes is not Acked", late, 2, 0, 30, 5)
	wantFetched(t, "and none comes", late, 2, 0, 0, 2)
	late.Acked = rows(1, 1, 3)
	for _, n := range []int{0, 1, 30} {
		wantNoClusterStep(t, "a row that is Acked would go", late, clFetch(2, 0, n))
	}
	late.Truth.InStep = []int{1}
	wantFetched(t, "it is not in step", late, 2, 0, 30, 5)
}

func wantInStepNow(t *testing.T, why string, c impl.Cluster, x impl.ClusterStep, some ...int) {
	t.Helper()
	wantClusterChanged(t, why, c, x, func(c *impl.Cluster) {
		c.Truth.InStep = some
		c.Nodes[x.K].View.InStep = some
	})
}

func TestClusterShrink(t *testing.T) {
	c := lateLeaders()
	wantInStepNow(t, "one in step", c, clShrink(1, 2), 1)
	wantNoClusterStep(t, "the leader itself", c, clShrink(1, 1))
	for _, to := range []int{0, 3} {
		wantNoClusterStep(t, "one who is not in step", c, clShrink(1, to))
	}
	for _, n := range []int{math.MinInt, -1, 4, 5, math.MaxInt} {
		wantNoClusterStep(t, "one who is not there", c, clShrink(1, n))
		wantNoClusterStep(t, "by one who is not there", c, clShrink(n, 2))
	}
	for to := range 4 {
		for _, k := range []int{0, 2, 3} {
			wantNoClusterStep(t, "by an elder leader, or by none", c, clShrink(k, to))
		}
		elected := clusterAfter(c, clElect(1))
		wantNoClusterStep(t, "by who leads and does not know it", elected, clShrink(1, to))
	}
	c.Nodes[1].View.InStep = []int{1, 3}
	wantInStepNow(t, "the Truth's InStep counts", c, clShrink(1, 2), 1)
	wantNoClusterStep(t, "in step by its View alone", c, clShrink(1, 3))
	c.Truth.InStep = []int{0, 1, 2}
	wantInStepNow(t, "its View has then what the Truth has", c, clShrink(1, 2), 0, 1)
	for k := range 4 {
		for leader := range 4 {
			c := plainCluster(4)
			c.Truth.Leader = leader
			for other := range 4 {
				c.Nodes[other].View.Leader = leader
			}
			if k == leader {
				wantNoClusterStep(t, "the leader", c, clShrink(leader, k))
				continue
			}
			wantInStepNow(t, "of all", c, clShrink(leader, k), slices.Delete(steps(4, 0, 1), k, k+1)...)
			wantNoClusterStep(t, "by one that does not lead", c, clShrink(k, 0))
		}
	}
}

// mayCome has 3, with all rows of the leader, of whom that is known to this number.
func mayCome(known, told int) impl.Cluster {
	return changedCluster(func(c *impl.Cluster) {
		c.Nodes[3] = elderNode(rows(1, 1, 3), 0)
		c.Nodes[1].Known[3], c.Nodes[1].Told = known, told
	})
}

func TestClusterExpand(t *testing.T) {
	for known := range 5 {
		for told := range 5 {
			c := mayCome(known, told)
			if known < 3 {
				wantNoClusterStep(t, "it lacks an elder row", c, clExpand(1, 3))
			} else if known < told {
				wantNoClusterStep(t, "it lacks a row that is Told", c, clExpand(1, 3))
			} else {
				wantInStepNow(t, "it has all of both", c, clExpand(1, 3), 1, 2, 3)
			}
		}
	}
	c := mayCome(4, 2)
	for _, to := range []int{1, 2} {
		wantNoClusterStep(t, "one in step", c, clExpand(1, to))
	}
	for _, n := range []int{math.MinInt, -1, 4, 5, math.MaxInt} {
		wantNoClusterStep(t, "one who is not there", c, clExpand(1, n))
		wantNoClusterStep(t, "by one who is not there", c, clExpand(n, 3))
	}
	c.Nodes[0].Known = []int{5, 5, 5, 5}
	for to := range 4 {
		for _, k := range []int{0, 2, 3} {
			wantNoClusterStep(t, "by an elder leader, or by none", c, clExpand(k, to))
		}
		wantNoClusterStep(t, "by who leads and does not know it", clusterAfter(c, clElect(1)), clExpand(1, to))
	}
	c.Nodes[1].View.InStep = []int{1, 3}
	wantInStepNow(t, "in step by its View alone", c, clExpand(1, 3), 1, 2, 3)
	c.Nodes[1].View.InStep = []int{1}
	wantNoClusterStep(t, "not in step by its View alone", c, clExpand(1, 2))
	c.Nodes[3].Log = rows(1)
	wantNoClusterStep(t, "it lacks what is Acked, though it is known to have it", c, clExpand(1, 3))
	c.Nodes[3].Log = []impl.Row{{Epoch: 1}, {Epoch: 1, Value: 9}, {Epoch: 3}}
	wantNoClusterStep(t, "it has another row there", c, clExpand(1, 3))
	c.Acked = rows(1)
	wantInStepNow(t, "it has what is Acked", c, clExpand(1, 3), 1, 2, 3)
}

// Rows of the leader's own Epoch that are not Told are not asked for, all elder ones are.
func TestClusterExpandAsksForElderRows(t *testing.T) {
	for elder := range 5 {
		for known := range 5 {
			c := plainCluster(2)
			c.Truth = impl.View{Epoch: 7, InStep: []int{0}}
			log := append(manyRows(elder, 6), manyRows(4-elder, 7)...)
			c.Nodes[0] = impl.Node{View: copyOfView(c.Truth), Log: log, Known: []int{4, known}}
			if known < elder {
				wantNoClusterStep(t, "an elder row is missing", c, clExpand(0, 1))
			} else {
				wantInStepNow(t, "no elder row is missing", c, clExpand(0, 1), 0, 1)
			}
		}
	}
}

func TestClusterExpandAmongOthers(t *testing.T) {
	for leader := range 4 {
		for bits := range 16 {
			if bits>>leader&1 == 0 {
				continue
			}
			c := plainCluster(4)
			c.Truth = impl.View{Leader: leader, InStep: listOf(bits)}
			for k := range 4 {
				c.Nodes[k].View = copyOfView(c.Truth)
			}
			for k := range 4 {
				if bits>>k&1 == 1 {
					wantNoClusterStep(t, "in step already", c, clExpand(leader, k))
					continue
				}
				wantInStepNow(t, "it has its place", c, clExpand(leader, k), listOf(bits|1<<k)...)
			}
		}
	}
}

// wantRowsTold asks that a node has told so many of its rows then, and that so many are Acked.
func wantRowsTold(t *testing.T, why string, c impl.Cluster, k, told, acked int) {
	t.Helper()
	wantClusterChanged(t, why, c, clTell(k), func(c *impl.Cluster) {
		c.Nodes[k].Told = told
		if acked > len(c.Acked) {
			c.Acked = slices.Clone(c.Nodes[k].Log[:acked])
		}
	})
	if got, _ := impl.StepCluster(c, clTell(k)); len(got.Acked) != acked {
		t.Errorf("%s: %d are Acked", why, len(got.Acked))
	}
}

func TestClusterTell(t *testing.T) {
	c := lateLeaders()
	wantRowsTold(t, "the least of those in step", c, 1, 3, 3)
	for _, k := range []int{2, 3} {
		wantNoClusterStep(t, "one that does not think that it leads", c, clTell(k))
	}
	for _, k := range []int{math.MinInt, -1, 4, 5, math.MaxInt} {
		wantNoClusterStep(t, "one who is not there", c, clTell(k))
	}
	for told := range 5 {
		c.Nodes[1].Told = told
		if told < 3 {
			wantRowsTold(t, "more than was Told", c, 1, 3, 3)
		} else {
			wantNoClusterStep(t, "not more than was Told", c, clTell(1))
		}
	}
	c.Nodes[1].Told = 0
	for known, acked := range []int{0, 2, 2, 3, 3} {
		c.Nodes[1].Known[2] = known
		if known == 0 {
			wantNoClusterStep(t, "nothing is known", c, clTell(1))
		} else if known < 4 {
			wantRowsTold(t, "Told, and Acked where that is more", c, 1, known, acked)
		}
	}
	c.Nodes[1].Known = []int{0, 2, 4, 0}
	wantRowsTold(t, "its own Known counts", c, 1, 2, 2)
	c.Nodes[1].View.InStep, c.Nodes[1].Known = []int{1}, []int{0, 4, 0, 0}
	wantNoClusterStep(t, "its own View counts: what 2 lacks would be Acked", c, clTell(1))
	c.Truth.InStep = []int{1}
	wantRowsTold(t, "its own View counts", c, 1, 4, 4)
	c.Nodes[1].View.InStep, c.Nodes[1].Known = []int{0, 1, 3}, []int{1, 4, 4, 3}
	wantRowsTold(t, "the first one is the least", c, 1, 1, 2)
	c.Nodes[1].Known = []int{4, 4, 0, 3}
	wantRowsTold(t, "the last one is the least", c, 1, 3, 3)
}

func TestAnElderLeaderTells(t *testing.T) {
	c := lateLeaders()
	wantNoClusterStep(t, "not more than was Told", c, clTell(0))
	c.Nodes[0].Told = 0
	wantRowsTold(t, "more than was Told, not than Acked", c, 0, 1, 2)
	c.Nodes[0].Known = []int{5, 2, 2, 0}
	wantRowsTold(t, "as many as are Acked", c, 0, 2, 2)
	c.Nodes[0].Known = []int{5, 3, 3, 0}
	wantNoClusterStep(t, "who is in step has another row there", c, clTell(0))
	c.Acked = rows(1)
	c.Nodes[0].Known = []int{5, 2, 2, 0}
	wantRowsTold(t, "who is in step has them, too", c, 0, 2, 2)
	full := fullCluster()
	full.Nodes[2].Told, full.Acked = 0, manyRows(3, 7)
	wantRowsTold(t, "as many as may be", full, 2, 30, 30)
}

// Each of these is done where the fields that it has no use for are zero.
func TestClusterStepsWithFieldsOfNoUse(t *testing.T) {
	c := mayCome(4, 2)
	for _, x := range []impl.ClusterStep{clElect(2), clLearn(0), clAppend(1, 5), clAppend(0, 5), clShrink(1, 2), clExpand(1, 3), clTell(1)} {
		if _, ok := wantClusterStep(t, "as it is", c, x); !ok {
			t.Error(x)
		}
		for _, n := range []int{math.MinInt, -1, 1, 2, 3, 4, 30, math.MaxInt} {
			if x.Kind != impl.ClAppend {
				y := x
				y.N = n
				wantNoClusterStep(t, "an N", c, y)
			}
			if x.To == 0 {
				y := x
				y.To = n
				wantNoClusterStep(t, "a To", c, y)
			}
		}
	}
}

func TestClusterStepsThatAreNone(t *testing.T) {
	for why, c := range someClusters() {
		for k := range c.Nodes {
			for _, kind := range []int{math.MinInt, -7, -1, 0, 8, 9, 100, math.MaxInt} {
				for n := range 3 {
					wantNoClusterStep(t, why+": no such kind", c, impl.ClusterStep{Kind: kind, K: k})
					wantNoClusterStep(t, why+": no such kind", c, impl.ClusterStep{Kind: kind, K: k, To: n % 2, N: n})
				}
			}
		}
	}
}

func TestPlayCluster(t *testing.T) {
	for nodes := 2; nodes <= 4; nodes++ {
		c, did, ok := impl.PlayCluster(nodes, nil)
		if !ok || len(did) != 0 || !sameCluster(c, plainCluster(nodes)) {
			t.Error("no step", c, did, ok)
		}
	}
	l := []impl.ClusterStep{
		clTell(0), clAppend(0, 7), clAppend(1, 8), clFetch(1, 0, 9), clFetch(2, 0, 0), {}, clTell(0), clShrink(0, 2), clTell(0),
		clElect(2), clElect(1), clAppend(0, 8), clLearn(1), clAppend(1, 9), clExpand(1, 2), clLearn(2), clFetch(2, 1, 1), clExpand(1, 2),
		clShrink(0, 1), clShrink(1, 0), clTell(0), clTell(1), clFetch(2, 1, 1), clTell(1), clLearn(1), {Kind: 8},
	}
	want := impl.Cluster{
		Truth: impl.View{Epoch: 1, Leader: 1, InStep: []int{1, 2}},
		Nodes: []impl.Node{
			{View: impl.View{InStep: []int{0, 1}}, Log: []impl.Row{{Value: 7}, {Value: 8}}, Known: []int{2, 1, 0}, Told: 1},
			{View: impl.View{Epoch: 1, Leader: 1, InStep: []int{1, 2}}, Log: []impl.Row{{Value: 7}, {Epoch: 1, Value: 9}}, Known: []int{0, 2, 2}, Told: 2},
			{View: impl.View{Epoch: 1, Leader: 1, InStep: []int{0, 1}}, Log: []impl.Row{{Value: 7}, {Epoch: 1, Value: 9}}, Known: []int{0, 0, 0}},
		},
		Acked: []impl.Row{{Value: 7}, {Epoch: 1, Value: 9}},
	}
	done := []bool{
		false, true, false, true, true, false, false, true, true,
		false, true, true, true, true, false, true, true, true,
		false, true, false, true, true, true, false, false,
	}
	c, did, ok := impl.PlayCluster(3, l)
	if !ok || !sameCluster(c, want) || !slices.Equal(did, done) {
		t.Error(c, did, ok)
	}
}

func TestPlayClusterOfAtMostSoManySteps(t *testing.T) {
	l := slices.Repeat([]impl.ClusterStep{clElect(1)}, 102)
	for _, many := range []int{0, 1, 2, 99, 100} {
		c, did, ok := impl.PlayCluster(2, l[:many])
		if !ok || len(did) != many || slices.Contains(did, false) || c.Truth.Epoch != many {
			t.Error(many, c, did, ok)
		}
		wantClusterPlay(t, "steps", 2, l[:many])
	}
	for _, l := range [][]impl.ClusterStep{l[:101], l[:102], make([]impl.ClusterStep, 101)} {
		if c, did, ok := impl.PlayCluster(2, l); ok || len(did) != 0 || !sameCluster(c, impl.Cluster{}) {
			t.Error("one more", c, did, ok)
		}
	}
	c, did, ok := impl.PlayCluster(4, make([]impl.ClusterStep, 100))
	if !ok || !slices.Equal(did, make([]bool, 100)) || !sameCluster(c, plainCluster(4)) {
		t.Error("none is done", c, did, ok)
	}
	for _, nodes := range []int{-1, 0, 1, 5, 6} {
		if c, did, ok := impl.PlayCluster(nodes, l[:4]); ok || len(did) != 0 || !sameCluster(c, impl.Cluster{}) {
			t.Error(nodes, c, did, ok)
		}
	}
}

func TestBehindInAndThinkLead(t *testing.T) {
	all := someClusters()
	for why, want := range map[string][2][]int{
		"new, of two":                      {nil, {0}},
		"new, of four":                     {nil, {0}},
		"nobody knows it":                  {{0, 1, 2}, {0}},
		"none leads":                       {{1}, nil},
		"all think so":                     {{0, 1}, {0, 1, 2}},
		"late leaders":                     {{0, 2, 3}, {0, 1}},
		"the Truth's Epoch one more":       {{0, 1, 2, 3}, {0, 1}},
		"the Truth's Epoch of another one": {{0, 1, 2, 3}, {0, 1}},
		"all of Epoch 0":                   {nil, {1}},
		"a leader's View with others":      {{0, 1, 2, 3}, {0, 1}},
		"the leader does not know it":      {{0, 1, 2, 3}, {0}},
		"two lead in one elder Epoch":      {{0, 2, 3}, {0, 1, 3}},
		"two nodes":                        {{0, 1}, {0, 1}},
	} {
		c, there := all[why]
		if !there {
			t.Fatal(why)
		}
		if l, ok := impl.BehindIn(c); !ok || !slices.Equal(l, want[0]) {
			t.Error(why, "behind", l, ok)
		}
		if l, ok := impl.ThinkLead(c); !ok || !slices.Equal(l, want[1]) {
			t.Error(why, "think that they lead", l, ok)
		}
	}
}

// wantSettledCluster asks that all know the Truth, have what the leader has and are in
// step, that so many rows are Acked, and that nothing comes of doing so once more.
func wantSettledCluster(t *testing.T, why string, c impl.Cluster, acked int) impl.Cluster {
	t.Helper()
	lead, all := c.Nodes[c.Truth.Leader].Log, steps(len(c.Nodes), 0, 1)
	got, ok := impl.SettleCluster(c)
	if !ok || got.Truth.Epoch != c.Truth.Epoch || got.Truth.Leader != c.Truth.Leader || !slices.Equal(got.Truth.InStep, all) {
		t.Errorf("%s: SettleCluster %v: %v %v", why, c, got, ok)
	}
	if !rowsBegin(lead, got.Acked) || !rowsBegin(got.Acked, c.Acked) || len(got.Acked) != acked || len(got.Nodes) != len(c.Nodes) {
		t.Errorf("%s: SettleCluster %v: Acked %v", why, c, got)
	}
	for k, n := range got.Nodes {
		if !sameView(n.View, got.Truth) || !slices.Equal(n.Log, lead) || k != c.Truth.Leader && n.Told != 0 {
			t.Errorf("%s: SettleCluster %v: node %d: %v", why, c, k, n)
		}
	}
	again, ok := impl.SettleCluster(got)
	if !ok || !sameCluster(again, got) {
		t.Errorf("%s: once more: %v %v", why, again, ok)
	}
	return got
}

func TestSettleCluster(t *testing.T) {
	for nodes := 2; nodes <= 4; nodes++ {
		if got := wantSettledCluster(t, "new", plainCluster(nodes), 0); !sameCluster(got, plainCluster(nodes)) {
			t.Error("it is not as it was", got)
		}
	}
	got := wantSettledCluster(t, "late leaders, logs that part, some not in step", lateLeaders(), 4)
	if n := got.Nodes[1]; n.Told != 4 || !slices.Equal(n.Known, []int{4, 4, 4, 4}) {
		t.Error("the leader", n)
	}
	if n := wantSettledCluster(t, "nobody knows it", changedCluster(func(c *impl.Cluster) { c.Truth.Epoch = 9 }), 4).Nodes[1]; n.Told != 4 {
		t.Error("the leader", n)
	}
	other := clusterAfter(lateLeaders(), clElect(2))
	if n := wantSettledCluster(t, "another one leads", other, 3).Nodes[2]; n.Told != 3 || !slices.Equal(n.Known, []int{3, 3, 3, 3}) {
		t.Error("the leader", n)
	}
	one := clusterAfter(lateLeaders(), clElect(1), clLearn(1), clAppend(1, 7))
	wantSettledCluster(t, "the leader alone knows it", one, 5)
	all := clusterAfter(lateLeaders(), clLearn(0), clLearn(2), clLearn(3))
	wantSettledCluster(t, "all know it", all, 4)
	wantSettledCluster(t, "all full", fullCluster(), 30)
	wantSettledCluster(t, "the last Epoch", changedCluster(func(c *impl.Cluster) { c.Truth.Epoch = 100 }), 4)
	wantSettledCluster(t, "nothing Acked yet", changedCluster(func(c *impl.Cluster) { c.Acked = nil }), 4)
	wantSettledCluster(t, "one lacks all", changedCluster(func(c *impl.Cluster) { c.Nodes[3].Log = nil }), 4)
	wantSettledCluster(t, "three think that they lead", threeThinkThatTheyLead(), 0)
	wantSettledCluster(t, "no rows", changedCluster(func(c *impl.Cluster) { *c = withoutRows(*c) }), 0)
}

// The leader tells what it knows of itself, too; of the Truth's Epoch it goes on with what
// it knew and told.
func TestSettleClusterByWhatTheLeaderKnows(t *testing.T) {
	for known := range 5 {
		for told := range 5 {
			c := changedCluster(func(c *impl.Cluster) { c.Nodes[1].Known[1], c.Nodes[1].Told = known, told })
			acked := 2
			if known > told {
				acked = max(2, known)
			}
			got := wantSettledCluster(t, "of the Epoch", c, acked)
			if n := got.Nodes[1]; n.Told != max(told, known) || !slices.Equal(n.Known, []int{4, known, 4, 4}) {
				t.Error(known, told, n)
			}
			c.Truth.Epoch = 5
			got = wantSettledCluster(t, "of another Epoch", c, 4)
			if n := got.Nodes[1]; n.Told != 4 || !slices.Equal(n.Known, []int{4, 4, 4, 4}) {
				t.Error(known, told, n)
			}
		}
	}
}

func TestRandomClustersAndSteps(t *testing.T) {
	r := newRandom()
	for range 400 {
		wantClusterSteps(t, "random", randomCluster(r))
	}
}

func TestAnyGoodClustersAndSteps(t *testing.T) {
	r := newRandom()
	late, acked := 0, 0
	for range 800 {
		c := anyCluster(r)
		if !impl.GoodCluster(c) {
			t.Fatal(c)
		}
		wantClusterSteps(t, "any", c)
		behind, _ := impl.BehindIn(c)
		late += len(behind)
		acked += len(c.Acked)
	}
	if late < 800 || acked < 400 {
		t.Error("one kind of clusters alone", late, acked)
	}
}

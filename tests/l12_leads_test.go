package tests

import (
	"slices"
	"testing"

	"loop.example/g00361/impl"
)

// Promise 12: a part's leader is in step and lives, and changes with its epoch alone.

// wantLed asks that each part is led by one in step that lives, and by nobody just
// where none does.
func wantLed(t *testing.T, c impl.Control) {
	t.Helper()
	live, ok := impl.LiveBrokers(c)
	offline, good := impl.OfflineParts(c)
	if !ok || !good {
		t.Error("not good", c)
	}
	for k, p := range c.Parts {
		some := 0
		for _, one := range p.InStep {
			if slices.Contains(live, one) {
				some++
			}
		}
		if (some == 0) != slices.Contains(offline, k) || (some == 0) != (p.Leader == -1) {
			t.Error("it is offline, or not", k, c)
		}
		if some == 0 {
			continue
		}
		if !slices.Contains(p.InStep, p.Leader) || !slices.Contains(live, p.Leader) {
			t.Error("its leader is not in step, or does not live", k, c)
		}
		if leads, ok := impl.LeadsIn(c, p.Leader); !ok || !slices.Contains(leads, k) {
			t.Error("it is not told whom it is led by", k, leads, c)
		}
	}
}

// wantLedOn asks of a command that the parts that were there go on: with the Epoch of
// the leader, where it is the same, and with one more, where another one leads.
func wantLedOn(t *testing.T, before, after impl.Control, x impl.Command, code int) {
	t.Helper()
	if code != impl.RepOk {
		if !sameControl(before, after) {
			t.Error("a refused command changed it", before, x, code, after)
		}
		return
	}
	if len(after.Parts) < len(before.Parts) || len(after.Brokers) != len(before.Brokers) || after.Next < before.Next {
		t.Error("less than before", before, x, after)
		return
	}
	for k, p := range before.Parts {
		q := after.Parts[k]
		epoch, stamp := p.Epoch, p.Stamp
		if q.Leader != p.Leader && q.Leader != -1 {
			epoch++
		}
		if q.Leader != p.Leader || x.Kind == impl.CmAlter && x.Part == k {
			stamp++
		}
		if q.Epoch != epoch || q.Stamp != stamp || !slices.Equal(p.Homes, q.Homes) {
			t.Error("Epoch, Stamp or Homes", k, before, x, after)
		}
		if !slices.Equal(p.InStep, q.InStep) && q.Stamp == p.Stamp {
			t.Error("another InStep with one Stamp", k, before, x, after)
		}
		lived := p.Leader != -1 && !after.Brokers[p.Leader].Fenced
		if q.Leader != p.Leader && lived && x.Kind != impl.CmMove {
			t.Error("another leads, though it lives", k, before, x, after)
		}
		if !slices.Equal(p.InStep, q.InStep) && (x.Kind != impl.CmAlter || x.Broker != p.Leader || x.Epoch != p.Epoch) {
			t.Error("InStep were not altered by the leader", k, before, x, after)
		}
	}
	for _, p := range after.Parts[len(before.Parts):] {
		if p.Stamp != 1 || (p.Epoch == 1) != (p.Leader != -1) || p.Epoch > 1 {
			t.Error("a new part", before, x, after)
		}
	}
}

// controlKey is another one for each control with small numbers.
func controlKey(c impl.Control) string {
	var key []byte
	put := func(numbers ...int) {
		for _, n := range numbers {
			key = append(key, byte(n+1))
		}
	}
	put(c.Next)
	for _, b := range c.Brokers {
		put(b.Epoch, b.Left)
	}
	for _, p := range c.Parts {
		put(p.Leader, p.Epoch, p.Stamp, len(p.Homes))
		put(p.Homes...)
		put(len(p.InStep))
		put(p.InStep...)
	}
	return string(key)
}

type controlLimits struct {
	brokers, parts, next, stamp int
}

// fewCommands are the commands that lead on within such limits. Where a part has
// come to its last Stamp nothing is asked any more.
func fewCommands(c impl.Control, few controlLimits) []impl.Command {
	l := []impl.Command{cmTick()}
	for k, b := range c.Brokers {
		l = append(l, cmBeat(k, b.Epoch))
		if c.Next < few.next {
			l = append(l, cmRegister(k))
		}
	}
	for bits := 1; bits < 1<<few.brokers && len(c.Parts) < few.parts; bits++ {
		l = append(l, cmCreate(listOf(bits)...))
	}
	for part, p := range c.Parts {
		if p.Stamp >= few.stamp {
			return nil
		}
		for k := range c.Brokers {
			l = append(l, cmMove(part, k))
			for bits := range 1 << few.brokers {
				l = append(l, cmAlter(part, k, p.Epoch, p.Stamp, listOf(bits)...))
			}
		}
	}
	return l
}

// All controls that few brokers come to with few parts and few changes.
func TestAllFewControls(t *testing.T) {
	for _, few := range []controlLimits{{1, 2, 3, 4}, {2, 1, 3, 5}, {3, 1, 3, 2}} {
		first, _ := impl.NewControl(few.brokers)
		seen := map[string]bool{controlKey(first): true}
		all := []impl.Control{first}
		offline, led := 0, 0
		for at := 0; at < len(all) && !t.Failed(); at++ {
			c := all[at]
			wantLed(t, c)
			for _, p := range c.Parts {
				led = max(led, p.Epoch)
				if p.Leader == -1 && p.Epoch > 0 {
					offline++
				}
			}
			for _, x := range fewCommands(c, few) {
				got, code, ok := wantCommand(t, "few", c, x)
				if !ok {
					t.Error("told false", c, x)
				}
				wantLedOn(t, c, got, x, code)
				if key := controlKey(got); !seen[key] {
					seen[key] = true
					all = append(all, got)
				}
			}
		}
		if offline == 0 || led < 2 {
			t.Error("not all came to be", few, offline, led)
		}
	}
}

func TestPlaysAreLed(t *testing.T) {
	r := newRandom()
	codes := map[int]int{}
	moved, offline := 0, 0
	for range 2000 {
		brokers := 1 + r.IntN(6)
		l := randomCommands(r, brokers, r.IntN(81))
		wantCommandPlay(t, "random", brokers, l)
		c, told, ok := impl.PlayCommands(brokers, l)
		if !ok || len(told) != len(l) {
			t.Fatal(brokers, l)
		}
		wantControl(t, "random", c)
		wantLed(t, c)
		for _, code := range told {
			codes[code]++
		}
		for _, p := range c.Parts {
			moved += max(0, p.Epoch-1)
			if p.Leader == -1 {
				offline++
			}
		}
	}
	for code := impl.RepOk; code <= impl.RepBad; code++ {
		if codes[code] < 300 {
			t.Error("too few are told", code, codes)
		}
	}
	if moved < 1000 || offline < 200 {
		t.Error("too few come to lead, or are led by nobody", moved, offline)
	}
}

// Step by step, so that numbers come to their limits: of each part each Epoch is of
// one leader, and each Stamp of one leader and one list of who is in step.
func TestLongRunsAreLedByOneAnEpoch(t *testing.T) {
	type place struct{ part, number int }
	r := newRandom()
	last, full := 0, 0
	for range 12 {
		now, _ := impl.NewControl(1 + r.IntN(6))
		leaders := map[place]int{}
		stamped := map[place]impl.Partition{}
		for range 24000 {
			x := randomCommand(r, now)
			next, code, ok := impl.DoCommand(now, x)
			if !ok {
				t.Fatal(now, x)
			}
			wantLedOn(t, now, next, x, code)
			wantLed(t, next)
			now = next
			for k, p := range now.Parts {
				if led, was := leaders[place{k, p.Epoch}]; p.Leader != -1 && was && led != p.Leader {
					t.Error("two lead in one Epoch", k, led, now)
				}
				if p.Leader != -1 {
					leaders[place{k, p.Epoch}] = p.Leader
				}
				if one, was := stamped[place{k, p.Stamp}]; was && !samePartition(one, p) {
					t.Error("two of one Stamp", k, one, now)
				}
				stamped[place{k, p.Stamp}] = p
				if p.Stamp == 1000 {
					full++
				}
			}
		}
		if now.Next == 1000 {
			last++
		}
	}
	if last == 0 || full == 0 {
		t.Error("not all came to be", last, full)
	}
}

// Brokers register up to the last Epoch, and a part is moved up to its last.
func TestRunsToTheLastNumbers(t *testing.T) {
	c := controlAfter(plainControl(3), cmRegister(0), cmRegister(2), cmCreate(0, 1, 2))
	for n := 3; n < 1000; n++ {
		next, code, ok := impl.DoCommand(c, cmRegister(n%2*2))
		if !ok || code != impl.RepOk || next.Brokers[n%2*2].Epoch != n || next.Next != n+1 {
			t.Fatal(n, next, code, ok)
		}
		wantLedOn(t, c, next, cmRegister(n%2*2), code)
		c = next
	}
	wantReply(t, "no Epoch is left", c, cmRegister(1), impl.RepBad)
	for n := 2; n <= 1000; n++ {
		to := 2 - n%2*2
		next, code, ok := impl.DoCommand(c, cmMove(0, to))
		if p := next.Parts[0]; !ok || code != impl.RepOk || p.Leader != to || p.Epoch != n || p.Stamp != n {
			t.Fatal(n, next, code, ok)
		}
		wantLed(t, next)
		c = next
	}
	wantReply(t, "no Epoch of the part is left", c, cmMove(0, 0), impl.RepBad)
	wantCommanded(t, "its leader stays", c, cmMove(0, 2), func(c *impl.Control) {})
	for range 8 {
		c = controlAfter(c, cmTick())
	}
	wantReply(t, "nor a Stamp, for nobody", c, cmTick(), impl.RepBad)
	wantLed(t, c)
}

// A control that no play made is led so, too.
func TestAnyGoodControlIsLed(t *testing.T) {
	r := newRandom()
	refused := 0
	for range 1000 {
		c := anyControl(r)
		wantLed(t, c)
		for _, x := range commandsOn(c) {
			if got, code, ok := impl.DoCommand(c, x); ok {
				wantLedOn(t, c, got, x, code)
				wantLed(t, got)
				if x.Kind == impl.CmTick && code == impl.RepBad {
					refused++
				}
			}
		}
	}
	if refused < 20 {
		t.Error("no tick is refused", refused)
	}
}

// A part that nobody leads is led again as soon as one in step lives, by that one:
// a home that is not in step does not lead though it lives.
func TestAPartIsLedAgainByOneInStep(t *testing.T) {
	c := controlAfter(plainControl(3), cmRegister(0), cmRegister(1), cmRegister(2), cmCreate(0, 1, 2), cmAlter(0, 0, 1, 1, 0, 1))
	for range 9 {
		c = controlAfter(c, cmTick())
	}
	if p := c.Parts[0]; p.Leader != -1 || p.Epoch != 1 || p.Stamp != 3 {
		t.Fatal(c)
	}
	c = controlAfter(c, cmBeat(2, 3))
	if p := c.Parts[0]; p.Leader != -1 || p.Epoch != 1 || p.Stamp != 3 {
		t.Error("2 is not in step", c)
	}
	wantReply(t, "nor does it come so by asking", c, cmMove(0, 2), impl.RepBad)
	wantReply(t, "nor alters it anything", c, cmAlter(0, 2, 1, 3, 2), impl.RepFenced)
	wantCommanded(t, "1 is", c, cmBeat(1, 2), func(c *impl.Control) {
		c.Brokers[1].Left, c.Brokers[1].Fenced = 9, false
		c.Parts[0].Leader, c.Parts[0].Epoch, c.Parts[0].Stamp = 1, 2, 4
	})
	c = controlAfter(c, cmBeat(1, 2))
	wantCommanded(t, "0, the first, does not take it from 1", c, cmRegister(0), func(c *impl.Control) {
		c.Brokers[0], c.Next = impl.Broker{Epoch: 4, Left: 9}, 5
	})
	wantReply(t, "who led before asks with what it knew", c, cmAlter(0, 0, 1, 2, 0), impl.RepStale)
	wantReply(t, "and with what is so now", c, cmAlter(0, 0, 2, 4, 0), impl.RepFenced)
}

// Who led before, and leads again, has another Epoch: what it asked for then is
// refused now.
func TestALeaderThatCameAgainHasAnotherEpoch(t *testing.T) {
	c := controlAfter(plainControl(2), cmRegister(0), cmRegister(1), cmCreate(0, 1), cmMove(0, 1), cmMove(0, 0))
	if p := c.Parts[0]; p.Leader != 0 || p.Epoch != 3 || p.Stamp != 3 {
		t.Fatal(c)
	}
	for epoch := 1; epoch <= 2; epoch++ {
		for stamp := 1; stamp <= 3; stamp++ {
			wantReply(t, "an elder Epoch", c, cmAlter(0, 0, epoch, stamp, 0), impl.RepStale)
		}
	}
	alone := controlAfter(plainControl(1), cmRegister(0), cmCreate(0))
	for range 9 {
		alone = controlAfter(alone, cmTick())
	}
	wantCommanded(t, "alone, it fell and came", alone, cmBeat(0, 1), func(c *impl.Control) {
		c.Brokers[0] = impl.Broker{Epoch: 1, Left: 9}
		c.Parts[0].Leader, c.Parts[0].Epoch, c.Parts[0].Stamp = 0, 2, 3
	})
}

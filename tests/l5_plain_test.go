package tests

import (
	"math/rand/v2"
	"slices"

	"loop.example/g00361/impl"
)

// What chapter 5 says, written once more in the plainest way: all is told by the
// batches of a producer, which are looked for in the log each time.

// batchesOf are the batches of one producer, in order.
func batchesOf(l []impl.Batch, id int) []impl.Batch {
	var out []impl.Batch
	for _, b := range l {
		if b.Producer == id {
			out = append(out, b)
		}
	}
	return out
}

// lastEpochOf are those of its last epoch; the producer must be there.
func lastEpochOf(l []impl.Batch, id int) []impl.Batch {
	own := batchesOf(l, id)
	epoch := own[len(own)-1].Epoch
	return slices.DeleteFunc(own, func(b impl.Batch) bool { return b.Epoch != epoch })
}

func seqBehind(b impl.Batch) int {
	return b.Seq + len(b.Records)
}

func idsOf(l []impl.Batch) []int {
	var ids []int
	for _, b := range l {
		ids = append(ids, b.Producer)
	}
	slices.Sort(ids)
	return slices.Compact(ids)
}

func manyRecords(l []impl.Batch) int {
	many := 0
	for _, b := range l {
		many += len(b.Records)
	}
	return many
}

// plainPartLog tells whether batches may be those of a part.
func plainPartLog(l []impl.Batch) bool {
	if len(l) > 60 || len(idsOf(l)) > 4 {
		return false
	}
	for i, b := range l {
		if !plainGood(b) || b.Offset != manyRecords(l[:i]) || seqBehind(b)-1 > 65535 {
			return false
		}
		seq := 0
		if ahead := batchesOf(l[:i], b.Producer); len(ahead) > 0 {
			last := ahead[len(ahead)-1]
			if last.Epoch > b.Epoch {
				return false
			}
			if last.Epoch == b.Epoch {
				seq = seqBehind(last)
			}
		}
		if b.Seq != seq {
			return false
		}
	}
	return true
}

func plainProducer(l []impl.Batch, id int) impl.Producer {
	own := lastEpochOf(l, id)
	last := own[len(own)-1]
	p := impl.Producer{Id: id, Epoch: last.Epoch, Next: seqBehind(last)}
	for _, b := range own[max(0, len(own)-5):] {
		p.Window = append(p.Window, impl.Done{Seq: b.Seq, Many: len(b.Records), Offset: b.Offset})
	}
	return p
}

func plainRebuilt(l []impl.Batch) (impl.Part, bool) {
	if !plainPartLog(l) {
		return impl.Part{}, false
	}
	p := impl.Part{Log: copyOfLog(l), End: manyRecords(l)}
	for _, id := range idsOf(l) {
		p.Producers = append(p.Producers, plainProducer(l, id))
	}
	return p, true
}

func plainPartGood(p impl.Part) bool {
	want, ok := plainRebuilt(p.Log)
	return ok && samePart(p, want)
}

func plainAskGood(a impl.Ask) bool {
	return plainGood(impl.Batch{Producer: a.Id, Epoch: a.Epoch, Seq: a.Seq, Records: a.Records})
}

// plainCode tells the code and the offset of a good ask.
func plainCode(l []impl.Batch, a impl.Ask) (int, int) {
	own := batchesOf(l, a.Id)
	anew := len(own) == 0 || own[len(own)-1].Epoch < a.Epoch
	if anew && a.Seq != 0 {
		return 3, 0
	}
	if !anew {
		p := plainProducer(l, a.Id)
		if p.Epoch > a.Epoch {
			return 4, 0
		}
		for _, d := range p.Window {
			if a.Seq != p.Next && d.Seq == a.Seq && d.Many == len(a.Records) {
				return 1, d.Offset
			}
		}
		if a.Seq < p.Next {
			return 2, 0
		}
		if a.Seq > p.Next {
			return 3, 0
		}
	}
	if len(l) == 60 || len(own) == 0 && len(idsOf(l)) == 4 || a.Seq+len(a.Records)-1 > 65535 {
		return 5, 0
	}
	return 0, manyRecords(l)
}

func plainAsked(p impl.Part, a impl.Ask) (impl.Part, int, int, bool) {
	if !plainPartGood(p) || !plainAskGood(a) {
		return impl.Part{}, 0, 0, false
	}
	code, offset := plainCode(p.Log, a)
	l := copyOfLog(p.Log)
	if code == 0 {
		l = append(l, impl.Batch{Offset: offset, Epoch: a.Epoch, Producer: a.Id, Seq: a.Seq, Records: a.Records})
	}
	out, _ := plainRebuilt(l)
	return out, code, offset, true
}

func plainPlayed(l []impl.Ask) (impl.Part, []int, bool) {
	if len(l) > 60 {
		return impl.Part{}, nil, false
	}
	p, _ := plainRebuilt([]impl.Batch{{Records: []string{""}}})
	var codes []int
	for _, a := range l {
		next, code, _, ok := plainAsked(p, a)
		if !ok {
			return impl.Part{}, nil, false
		}
		p, codes = next, append(codes, code)
	}
	return p, codes, true
}

func plainRecords(p impl.Part, id int) ([]string, bool) {
	if !plainPartGood(p) || len(batchesOf(p.Log, id)) == 0 {
		return nil, false
	}
	var out []string
	for _, b := range lastEpochOf(p.Log, id) {
		out = append(out, b.Records...)
	}
	return out, true
}

func plainNextSeq(p impl.Part, id int) (int, bool) {
	if !plainPartGood(p) || len(batchesOf(p.Log, id)) == 0 {
		return 0, false
	}
	return manyRecords(lastEpochOf(p.Log, id)), true
}

func sameProducers(a, b []impl.Producer) bool {
	return slices.EqualFunc(a, b, func(x, y impl.Producer) bool {
		return x.Id == y.Id && x.Epoch == y.Epoch && x.Next == y.Next && slices.Equal(x.Window, y.Window)
	})
}

func samePart(a, b impl.Part) bool {
	return a.End == b.End && sameLog(a.Log, b.Log) && sameProducers(a.Producers, b.Producers)
}

// copyOfPart shares no list with what it is given.
func copyOfPart(p impl.Part) impl.Part {
	out := impl.Part{Log: copyOfLog(p.Log), End: p.End}
	for _, x := range p.Producers {
		x.Window = slices.Clone(x.Window)
		out.Producers = append(out.Producers, x)
	}
	return out
}

// ask is one with so many records, of texts that tell where they come from.
func ask(id, epoch, seq, many int) impl.Ask {
	return impl.Ask{Id: id, Epoch: epoch, Seq: seq, Records: texts(many, 3)}
}

// partOf is the part that asks lead to, from a part without batches; each must
// be let in.
func partOf(asks ...impl.Ask) impl.Part {
	var l []impl.Batch
	for _, a := range asks {
		l = append(l, impl.Batch{Offset: manyRecords(l), Epoch: a.Epoch, Producer: a.Id, Seq: a.Seq, Records: a.Records})
	}
	p, ok := plainRebuilt(l)
	if !ok {
		panic("no part")
	}
	return p
}

// inRow are asks of one producer and epoch, one behind the other, each with so
// many records.
func inRow(id, epoch int, many ...int) []impl.Ask {
	var l []impl.Ask
	seq := 0
	for _, n := range many {
		l = append(l, ask(id, epoch, seq, n))
		seq += n
	}
	return l
}

// sixty are batches of one producer up to the limit, or of so many fewer.
func sixty(id, fewer int) []impl.Ask {
	return inRow(id, 0, slices.Repeat([]int{1}, 60-fewer)...)
}

// randomAsk is near to what the part would let in, or has done.
func randomAsk(r *rand.Rand, p impl.Part) impl.Ask {
	ids := []int{0, 1, 4, 300, 65535}
	a := impl.Ask{Id: ids[r.IntN(len(ids))], Epoch: r.IntN(3), Records: randomRecords(r)}
	if own := batchesOf(p.Log, a.Id); len(own) > 0 {
		b := own[len(own)-1-r.IntN(min(len(own), 8))]
		last := own[len(own)-1]
		a.Epoch = min(1000, max(0, last.Epoch+max(-1, r.IntN(12)-10)))
		a.Seq = seqBehind(last)
		switch r.IntN(5) {
		case 0:
			a.Seq, a.Records = b.Seq, b.Records
		case 1:
			a.Seq = max(0, a.Seq-2+r.IntN(5))
		case 2:
			a.Seq = 0
		}
	}
	return a
}

func randomPart(r *rand.Rand) impl.Part {
	p := impl.Part{}
	for range r.IntN(25) {
		p, _, _, _ = plainAsked(p, randomAsk(r, p))
	}
	return p
}

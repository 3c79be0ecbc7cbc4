package tests

import (
	"math/rand/v2"
	"strings"

	"loop.example/g00361/impl"
)

// What chapter 2 says, written once more in the plainest way: a store is its
// first Base and the batches of each segment, all else follows from these.

type plainStore struct {
	base   int
	groups [][]impl.Batch
}

func (p plainStore) all() []impl.Batch {
	var l []impl.Batch
	for _, g := range p.groups {
		l = append(l, g...)
	}
	return l
}

func plainMarks(l []impl.Batch) []impl.Mark {
	var marks []impl.Mark
	at, marked := 0, 0
	for i, b := range l {
		if i == 0 || at >= marked+40 {
			marks = append(marks, impl.Mark{Offset: b.Offset, At: at})
			marked = at
		}
		at += len(plainBytes(b))
	}
	return marks
}

func plainText(l []impl.Batch) string {
	s := ""
	for _, b := range l {
		s += plainBytes(b)
	}
	return s
}

func (p plainStore) made() impl.Store {
	s := impl.Store{Next: p.base}
	for _, g := range p.groups {
		s.Segments = append(s.Segments, impl.Segment{Base: s.Next, Bytes: plainText(g), Index: plainMarks(g)})
		for _, b := range g {
			s.Next += len(b.Records)
		}
	}
	return s
}

// readStore tells of any store whether it is good, and what is in it: it is if
// it is just the one that is made of its batches, and these may stand so.
func readStore(s impl.Store) (plainStore, bool) {
	if len(s.Segments) < 1 || len(s.Segments) > 8 || s.Next < 0 || s.Next > 100000 {
		return plainStore{}, false
	}
	p := plainStore{base: s.Segments[0].Base}
	for i, g := range s.Segments {
		l, _, whole := plainRead(g.Bytes)
		empty := len(l) == 0 && i < len(s.Segments)-1
		if !whole || empty || len(l) > 1 && len(g.Bytes) > 120 {
			return plainStore{}, false
		}
		p.groups = append(p.groups, l)
	}
	all := p.all()
	for i := range all {
		if i > 0 && !plainFollows(all[i-1], all[i]) || i == 0 && all[i].Offset != p.base {
			return plainStore{}, false
		}
	}
	return p, sameStore(s, p.made())
}

func (p plainStore) has(offset int) bool {
	return offset >= p.base && offset < p.made().Next
}

func (p plainStore) from(offset int, many int) []impl.Batch {
	var l []impl.Batch
	for _, b := range p.all() {
		if offset < b.Offset+len(b.Records) && len(l) < many {
			l = append(l, b)
		}
	}
	return l
}

func (p plainStore) seek(offset int) (int, int) {
	number, place := 0, 0
	for i, g := range p.made().Segments {
		if g.Base > offset {
			continue
		}
		for _, m := range g.Index {
			if m.Offset <= offset {
				number, place = i, m.At
			}
		}
	}
	return number, place
}

func (p plainStore) cut(offset int) plainStore {
	out := plainStore{base: p.base}
	for i, g := range p.groups {
		var left []impl.Batch
		for _, b := range g {
			if b.Offset+len(b.Records)-1 < offset {
				left = append(left, b)
			}
		}
		if i == 0 || len(left) > 0 {
			out.groups = append(out.groups, left)
		}
	}
	return out
}

func (p plainStore) dropped(offset int) plainStore {
	segments := p.made().Segments
	first := 0
	for i, g := range segments {
		if i > 0 && g.Base <= offset {
			first = i
		}
	}
	return plainStore{base: segments[first].Base, groups: p.groups[first:]}
}

func (p plainStore) with(b impl.Batch) plainStore {
	groups := append([][]impl.Batch(nil), p.groups...)
	last := groups[len(groups)-1]
	if len(last) == 0 || len(plainText(last))+len(plainBytes(b)) <= 120 {
		groups[len(groups)-1] = append(append([]impl.Batch(nil), last...), b)
	} else {
		groups = append(groups, []impl.Batch{b})
	}
	return plainStore{base: p.base, groups: groups}
}

func sameMarks(a, b []impl.Mark) bool {
	if len(a) != len(b) {
		return false
	}
	for i := range a {
		if a[i] != b[i] {
			return false
		}
	}
	return true
}

func sameStore(a, b impl.Store) bool {
	if a.Next != b.Next || len(a.Segments) != len(b.Segments) {
		return false
	}
	for i, g := range a.Segments {
		h := b.Segments[i]
		if g.Base != h.Base || g.Bytes != h.Bytes || !sameMarks(g.Index, h.Index) {
			return false
		}
	}
	return true
}

// copyOfStore shares no list with what it is given.
func copyOfStore(s impl.Store) impl.Store {
	out := impl.Store{Next: s.Next}
	for _, g := range s.Segments {
		g.Index = append([]impl.Mark(nil), g.Index...)
		out.Segments = append(out.Segments, g)
	}
	return out
}

// sized is a list of records that makes a batch of just so many bytes (15 up to
// 182).
func sized(bytes int) []string {
	left := bytes - 14
	var l []string
	for left > 0 {
		n := min(left, 21)
		l = append(l, strings.Repeat("s", n-1))
		left -= n
	}
	return l
}

// chain is batches of so many bytes each, one behind the other.
func chain(base int, bytes ...int) []impl.Batch {
	var l []impl.Batch
	for i, n := range bytes {
		b := impl.Batch{Offset: base, Epoch: i, Producer: 3, Seq: i, Records: sized(n)}
		l = append(l, b)
		base += len(b.Records)
	}
	return l
}

// laid puts batches one behind the other, so many into each segment.
func laid(base int, l []impl.Batch, many ...int) plainStore {
	p := plainStore{base: base}
	for _, n := range many {
		p.groups = append(p.groups, l[:n:n])
		l = l[n:]
	}
	return p
}

func randomStore(r *rand.Rand) plainStore {
	p := plainStore{base: []int{0, 5, 50000, 99900, 99990, 100000}[r.IntN(6)], groups: [][]impl.Batch{nil}}
	epoch := r.IntN(20)
	for range r.IntN(25) {
		b := impl.Batch{Offset: p.made().Next, Epoch: epoch, Producer: r.IntN(9), Seq: r.IntN(65536), Records: randomRecords(r)}
		next := p.with(b)
		if len(next.groups) > 8 || next.made().Next > 100000 {
			break
		}
		p = next
		epoch += r.IntN(2)
	}
	if len(p.groups[0]) > 0 && len(p.groups) < 8 && r.IntN(8) == 0 {
		p.groups = append(p.groups, nil)
	}
	return p
}

func randomRecords(r *rand.Rand) []string {
	var l []string
	for range 1 + r.IntN(1+r.IntN(8)) {
		l = append(l, randomText(r, r.IntN(21)))
	}
	return l
}

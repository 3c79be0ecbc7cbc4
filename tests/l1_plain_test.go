package tests

import (
	"math/rand/v2"
	"strings"

	"loop.example/g00361/impl"
)

// What chapter 1 says, written once more in the plainest way, to be held
// against what the program answers.

func plainSum(s string) int {
	c := 65535
	for i := 0; i < len(s); i++ {
		c ^= 256 * int(s[i])
		for range 8 {
			high := c&32768 != 0
			c = c * 2 % 65536
			if high {
				c ^= 4129
			}
		}
	}
	return c
}

func plainNumber(n int, many int) string {
	s := ""
	for range many {
		s = string([]byte{byte(n % 256)}) + s
		n /= 256
	}
	return s
}

// plainRaw tells any fields, good or not, with a length and a number of records
// as given, and the sum that belongs to these bytes.
func plainRaw(length int, b impl.Batch, many int, tail string) string {
	s := plainNumber(length, 2) + plainNumber(b.Offset, 3) + plainNumber(b.Epoch, 2) +
		plainNumber(b.Producer, 2) + plainNumber(b.Seq, 2) + plainNumber(many, 1)
	for _, r := range b.Records {
		s += plainNumber(len(r), 1) + r
	}
	s += tail
	return s + plainNumber(plainSum(s), 2)
}

func plainLength(b impl.Batch) int {
	return 3 + 2 + 2 + 2 + 1 + len(b.Records) + len(strings.Join(b.Records, "")) + 2
}

func plainBytes(b impl.Batch) string {
	return plainRaw(plainLength(b), b, len(b.Records), "")
}

func plainGood(b impl.Batch) bool {
	good := b.Offset >= 0 && b.Offset <= 100000 && b.Epoch >= 0 && b.Epoch <= 1000 &&
		b.Producer >= 0 && b.Producer <= 65535 && b.Seq >= 0 && b.Seq <= 65535 &&
		len(b.Records) >= 1 && len(b.Records) <= 8
	for _, r := range b.Records {
		good = good && len(r) <= 20
	}
	return good
}

// plainTake reads fields without a look at length or sum, and then asks whether
// their batch's bytes are those that stand there.
func plainTake(s string, at int) (impl.Batch, int, bool) {
	if len(s) > 600 || at < 0 || at > len(s) || len(s)-at < 12 {
		return impl.Batch{}, 0, false
	}
	p := s[at:]
	num := func(from, to int) int {
		n := 0
		for _, c := range []byte(p[from:to]) {
			n = 256*n + int(c)
		}
		return n
	}
	b := impl.Batch{Offset: num(2, 5), Epoch: num(5, 7), Producer: num(7, 9), Seq: num(9, 11)}
	rest := p[12:]
	for range int(p[11]) {
		if rest == "" || len(rest)-1 < int(rest[0]) {
			return impl.Batch{}, 0, false
		}
		n := int(rest[0])
		b.Records = append(b.Records, rest[1:1+n])
		rest = rest[1+n:]
	}
	if !plainGood(b) || !strings.HasPrefix(p, plainBytes(b)) {
		return impl.Batch{}, 0, false
	}
	return b, at + len(plainBytes(b)), true
}

func plainFollows(a, b impl.Batch) bool {
	return a.Offset+len(a.Records) == b.Offset && a.Epoch <= b.Epoch
}

func plainRead(s string) ([]impl.Batch, int, bool) {
	if len(s) > 600 {
		return nil, 0, false
	}
	var l []impl.Batch
	at := 0
	for {
		b, end, ok := plainTake(s, at)
		if !ok || len(l) > 0 && !plainFollows(l[len(l)-1], b) {
			return l, at, at == len(s)
		}
		l, at = append(l, b), end
	}
}

func sameBatch(a, b impl.Batch) bool {
	if a.Offset != b.Offset || a.Epoch != b.Epoch || a.Producer != b.Producer || a.Seq != b.Seq || len(a.Records) != len(b.Records) {
		return false
	}
	for i := range a.Records {
		if a.Records[i] != b.Records[i] {
			return false
		}
	}
	return true
}

func sameLog(a, b []impl.Batch) bool {
	if len(a) != len(b) {
		return false
	}
	for i := range a {
		if !sameBatch(a[i], b[i]) {
			return false
		}
	}
	return true
}

// copyOf shares no list with what it is given.
func copyOf(b impl.Batch) impl.Batch {
	b.Records = append([]string(nil), b.Records...)
	return b
}

func copyOfLog(l []impl.Batch) []impl.Batch {
	var out []impl.Batch
	for _, b := range l {
		out = append(out, copyOf(b))
	}
	return out
}

// texts makes as many records, each of so many bytes.
func texts(many int, bytes int) []string {
	l := make([]string, 0, many)
	for i := range many {
		l = append(l, strings.Repeat(string([]byte{byte('a' + i%26)}), bytes))
	}
	return l
}

// One seed for all: what fails once fails again.
func newRandom() *rand.Rand {
	return rand.New(rand.NewPCG(361, 1))
}

func randomText(r *rand.Rand, most int) string {
	s := make([]byte, r.IntN(most+1))
	for i := range s {
		s[i] = byte(r.IntN(256))
	}
	return string(s)
}

func randomBatch(r *rand.Rand) impl.Batch {
	b := impl.Batch{Offset: r.IntN(100001), Epoch: r.IntN(1001), Producer: r.IntN(65536), Seq: r.IntN(65536)}
	for range 1 + r.IntN(8) {
		b.Records = append(b.Records, randomText(r, 20))
	}
	return b
}

// randomLog has batches one behind the other, of at most MaxBytes bytes in all.
func randomLog(r *rand.Rand) []impl.Batch {
	var l []impl.Batch
	size := 0
	for range r.IntN(8) {
		b := randomBatch(r)
		if len(l) > 0 {
			last := l[len(l)-1]
			b.Offset = last.Offset + len(last.Records)
			b.Epoch = min(1000, last.Epoch+r.IntN(2))
		} else {
			b.Offset /= 2
		}
		size += len(plainBytes(b))
		if size > 600 {
			break
		}
		l = append(l, b)
	}
	return l
}

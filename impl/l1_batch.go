package impl

import "strings"

const MaxRecords = 8
const MaxText = 20
const MaxBytes = 600

// The limits that the document tells without a name.
const maxOffset = 100000
const maxBatchEpoch = 1000
const maxWord = 65535

// How many bytes tell the length of a batch, how many stand ahead of its
// records in all, and how many behind them.
const lengthBytes = 2
const headBytes = 12
const sumBytes = 2

type Batch struct {
	Offset   int
	Epoch    int
	Producer int
	Seq      int
	Records  []string
}

// A row for each half of a byte is enough: a table for whole bytes would be
// longer than the language page lets a table be.
var sumTable = [16]uint16{
	0x0000, 0x1021, 0x2042, 0x3063, 0x4084, 0x50a5, 0x60c6, 0x70e7,
	0x8108, 0x9129, 0xa14a, 0xb16b, 0xc18c, 0xd1ad, 0xe1ce, 0xf1ef,
}

func GoodBatch(b Batch) bool {
	return within(b.Offset, maxOffset) && within(b.Epoch, maxBatchEpoch) &&
		within(b.Producer, maxWord) && within(b.Seq, maxWord) && goodRecords(b.Records)
}

func within(n int, most int) bool {
	return n >= 0 && n <= most
}

func goodRecords(records []string) bool {
	return len(records) >= 1 && len(records) <= MaxRecords && allShort(records)
}

func allShort(texts []string) bool {
	for _, s := range texts {
		if len(s) > MaxText {
			return false
		}
	}
	return true
}

func SumOf(s string) (int, bool) {
	if len(s) > MaxBytes {
		return 0, false
	}
	c := uint16(maxWord)
	for i := 0; i < len(s); i++ {
		c = sumHalf(c, s[i]>>4)
		c = sumHalf(c, s[i]&15)
	}
	return int(c), true
}

func sumHalf(c uint16, half byte) uint16 {
	return c<<4 ^ sumTable[c>>12^uint16(half)]
}

func BatchBytes(b Batch) (string, bool) {
	if !GoodBatch(b) {
		return "", false
	}
	out := putNumber(nil, sizeOf(b)-lengthBytes, lengthBytes)
	out = putNumber(out, b.Offset, 3)
	out = putNumber(out, b.Epoch, 2)
	out = putNumber(out, b.Producer, 2)
	out = putNumber(out, b.Seq, 2)
	out = putNumber(out, len(b.Records), 1)
	for _, r := range b.Records {
		out = putNumber(out, len(r), 1)
		out = append(out, r...)
	}
	sum, _ := SumOf(string(out))
	return string(putNumber(out, sum, sumBytes)), true
}

func sizeOf(b Batch) int {
	size := headBytes + sumBytes
	for _, r := range b.Records {
		size += 1 + len(r)
	}
	return size
}

// The highest byte comes first.
func putNumber(out []byte, n int, many int) []byte {
	for i := many - 1; i >= 0; i-- {
		out = append(out, byte(n>>(8*i)))
	}
	return out
}

func numberIn(s string) int {
	n := 0
	for i := 0; i < len(s); i++ {
		n = n<<8 | int(s[i])
	}
	return n
}

func TakeBatch(s string, at int) (Batch, int, bool) {
	if len(s) > MaxBytes || !within(at, len(s)) {
		return Batch{}, 0, false
	}
	size, ok := wholeSize(s[at:])
	if !ok {
		return Batch{}, 0, false
	}
	b, ok := readBatch(s[at : at+size])
	if !ok {
		return Batch{}, 0, false
	}
	return b, at + size, true
}

// The sum is held against the bytes ahead of any field being read, so that
// what was turned is not taken for a batch whatever it would tell.
func wholeSize(s string) (int, bool) {
	if len(s) < headBytes+sumBytes {
		return 0, false
	}
	size := lengthBytes + numberIn(s[:lengthBytes])
	if size < headBytes+sumBytes || size > len(s) {
		return 0, false
	}
	sum, ok := SumOf(s[:size-sumBytes])
	return size, ok && sum == numberIn(s[size-sumBytes:size])
}

func readBatch(s string) (Batch, bool) {
	records, ok := readRecords(s[headBytes:len(s)-sumBytes], int(s[headBytes-1]))
	if !ok {
		return Batch{}, false
	}
	b := Batch{
		Offset:   numberIn(s[2:5]),
		Epoch:    numberIn(s[5:7]),
		Producer: numberIn(s[7:9]),
		Seq:      numberIn(s[9:11]),
		Records:  records,
	}
	return b, GoodBatch(b)
}

// The records must end just where the batch says that they do: bytes that are
// left over, or wanting, make it none.
func readRecords(s string, many int) ([]string, bool) {
	records := make([]string, 0, many)
	at := 0
next:
	if len(records) == many {
		return records, at == len(s)
	}
	if at == len(s) {
		return nil, false
	}
	end := at + 1 + int(s[at])
	if end > len(s) {
		return nil, false
	}
	// A piece of the argument would share its memory.
	records = append(records, strings.Clone(s[at+1:end]))
	at = end
	goto next
}

func LogBytes(l []Batch) (string, bool) {
	if !GoodLog(l) {
		return "", false
	}
	var out []byte
	for _, b := range l {
		s, _ := BatchBytes(b)
		if len(out)+len(s) > MaxBytes {
			return "", false
		}
		out = append(out, s...)
	}
	return string(out), true
}

func ReadLog(s string) ([]Batch, int, bool) {
	if len(s) > MaxBytes {
		return nil, 0, false
	}
	var l []Batch
	at := 0
	for {
		b, end, ok := TakeBatch(s, at)
		if !ok || !mayFollow(l, b) {
			return l, at, at == len(s)
		}
		l = append(l, b)
		at = end
	}
}

func GoodLog(l []Batch) bool {
	for i, b := range l {
		if !GoodBatch(b) || !mayFollow(l[:i], b) {
			return false
		}
	}
	return true
}

// Of a good log and a good batch whether the batch may stand behind it.
func mayFollow(l []Batch, b Batch) bool {
	if len(l) == 0 {
		return true
	}
	last := l[len(l)-1]
	return b.Offset == last.Offset+len(last.Records) && b.Epoch >= last.Epoch
}

func EndOf(b Batch) (int, bool) {
	if !GoodBatch(b) {
		return 0, false
	}
	return b.Offset + len(b.Records), true
}

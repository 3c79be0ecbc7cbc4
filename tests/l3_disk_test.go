package tests

import (
	"slices"
	"strings"
	"testing"

	"loop.example/g00361/impl"
)

// Promise 3: whatever a crash leaves, what is recovered begins with all that
// was synced whole, and is the beginning of what was written.

// wantDisk holds each function's answers of a disk and a file's number against
// what the plain words tell.
func wantDisk(t *testing.T, why string, d impl.Disk, file int) {
	t.Helper()
	p, good := readDisk(d)
	if got := impl.GoodDisk(d); got != good {
		t.Errorf("%s: GoodDisk: %v", why, got)
	}
	want, wanted := p.flushed(file)
	if got, ok := impl.SyncFile(d, file); !sameAsPlain(got, ok, want, wanted) {
		t.Errorf("%s: SyncFile %d: %v %v", why, file, got, ok)
	}
	left, wanted := p.survives(file)
	if l, ok := impl.SurvivesIn(d, file); ok != wanted || !sameLog(l, left) {
		t.Errorf("%s: SurvivesIn %d: %v %v", why, file, l, ok)
	}
	want, left, wanted = p.recovered(file)
	if got, l, ok := impl.RecoverFile(d, file); !sameAsPlain(got, ok, want, wanted) || !sameLog(l, left) {
		t.Errorf("%s: RecoverFile %d: %v %v %v", why, file, got, l, ok)
	}
}

func wantAppendTo(t *testing.T, why string, d impl.Disk, file int, s string) impl.Disk {
	t.Helper()
	p, _ := readDisk(d)
	want, wanted := p.appended(file, s)
	got, ok := impl.AppendTo(d, file, s)
	if !sameAsPlain(got, ok, want, wanted) {
		t.Errorf("%s: AppendTo %d %q: %v %v", why, file, s, got, ok)
	}
	return got
}

func wantCutFile(t *testing.T, why string, d impl.Disk, file int, at int) impl.Disk {
	t.Helper()
	p, _ := readDisk(d)
	want, wanted := p.cut(file, at)
	got, ok := impl.CutFile(d, file, at)
	if !sameAsPlain(got, ok, want, wanted) {
		t.Errorf("%s: CutFile %d %d: %v %v", why, file, at, got, ok)
	}
	return got
}

func wantCrash(t *testing.T, why string, d impl.Disk, kept []int) impl.Disk {
	t.Helper()
	p, good := readDisk(d)
	want, wanted := p.crashed(kept)
	got, ok := impl.CrashDisk(d, kept)
	if !sameAsPlain(got, ok, want, wanted && good) {
		t.Errorf("%s: CrashDisk %v: %v %v", why, kept, got, ok)
	}
	return got
}

func wantWritten(t *testing.T, why string, d impl.Disk, file int, b impl.Batch) (impl.Disk, bool) {
	t.Helper()
	p, _ := readDisk(d)
	want, wanted := p.written(file, b)
	got, ok := impl.WriteBatch(d, file, b)
	if !sameAsPlain(got, ok, want, wanted) {
		t.Errorf("%s: WriteBatch %d %v: %v %v", why, file, b, got, ok)
	}
	return got, ok
}

// someLogText is the bytes of three batches: 16, 17 and 18 of them.
func someLogText() string {
	return plainText([]impl.Batch{batchAt(7, 2, "a"), batchAt(8, 2, "bb"), batchAt(9, 3, "ccc")})
}

// someDisks are good ones.
func someDisks() map[string]impl.Disk {
	s := someLogText()
	return map[string]impl.Disk{
		"one empty file":   plainDisk{{}}.made(),
		"as many as may":   plainDisk{{}, {loose: "x"}, {synced: s}, {synced: "x", loose: "y"}}.made(),
		"a full file":      plainDisk{filled(400, 0), filled(400, 1), filled(400, 399), filled(400, 400)}.made(),
		"a log":            plainDisk{{synced: s[:16], loose: s[16:]}}.made(),
		"a torn log":       plainDisk{{synced: s[:16], loose: s[16:40]}, {loose: s}}.made(),
		"synced in middle": plainDisk{{synced: s[:20], loose: s[20:]}, {synced: s[:50], loose: s[50:]}}.made(),
	}
}

// badDisks are not good, each by one thing.
func badDisks() map[string]impl.Disk {
	return map[string]impl.Disk{
		"no file":          {},
		"a list of none":   {Files: []impl.File{}},
		"a file too many":  {Files: make([]impl.File, 5)},
		"a byte too many":  {Files: []impl.File{{Bytes: strings.Repeat("x", 401)}}},
		"the last too big": {Files: []impl.File{{}, {}, {}, {Bytes: strings.Repeat("x", 401), Synced: 7}}},
		"below 0":          {Files: []impl.File{{Bytes: "xyz", Synced: -1}}},
		"above its length": {Files: []impl.File{{Bytes: "xyz", Synced: 4}}},
		"above none":       {Files: []impl.File{{Synced: 1}}},
		"the last below 0": {Files: []impl.File{{Bytes: "xyz", Synced: 3}, {Synced: -1}}},
	}
}

func TestNewDisk(t *testing.T) {
	for _, files := range []int{-1, 0, 1, 2, 3, 4, 5} {
		d, ok := impl.NewDisk(files)
		if ok != (files >= 1 && files <= impl.MaxFiles) {
			t.Error(files, ok)
		}
		want := impl.Disk{}
		if ok {
			want.Files = make([]impl.File, files)
		}
		if !sameDisk(d, want) || impl.GoodDisk(d) != ok {
			t.Error(files, d)
		}
		for _, file := range []int{-1, 0, files - 1, files} {
			wantDisk(t, "new", d, file)
			wantAppendTo(t, "new", d, file, "x")
			wantWritten(t, "new", d, file, batchAt(5, 5, "x"))
		}
	}
}

func TestTheNamedLimitsOfDisks(t *testing.T) {
	if impl.MaxFiles != 4 || impl.MaxFile != 400 {
		t.Error(impl.MaxFiles, impl.MaxFile)
	}
}

func TestGoodDisks(t *testing.T) {
	for why, d := range someDisks() {
		if !impl.GoodDisk(d) {
			t.Error(why)
		}
	}
}

func TestBadDisksAreRefused(t *testing.T) {
	for why, d := range badDisks() {
		if impl.GoodDisk(d) {
			t.Error(why)
		}
		for _, file := range []int{-1, 0, len(d.Files) - 1, len(d.Files)} {
			wantDisk(t, why, d, file)
			wantAppendTo(t, why, d, file, "")
			wantAppendTo(t, why, d, file, "x")
			wantCutFile(t, why, d, file, 0)
			wantWritten(t, why, d, file, batchAt(0, 0, "x"))
		}
		wantCrash(t, why, d, make([]int, len(d.Files)))
	}
}

func TestNumbersOfFiles(t *testing.T) {
	for why, d := range someDisks() {
		for file := -2; file <= len(d.Files)+2; file++ {
			wantDisk(t, why, d, file)
			wantAppendTo(t, why, d, file, "x")
			wantCutFile(t, why, d, file, 0)
			wantWritten(t, why, d, file, batchAt(10, 3, "x"))
		}
	}
}

// Only the file that is named changes, and the last one can be.
func TestOtherFilesStay(t *testing.T) {
	d := impl.Disk{Files: []impl.File{{Bytes: "one", Synced: 1}, {Bytes: "two", Synced: 2}, {Bytes: "", Synced: 0}}}
	got, ok := impl.AppendTo(d, 1, "xyz")
	want := impl.Disk{Files: []impl.File{{Bytes: "one", Synced: 1}, {Bytes: "twoxyz", Synced: 2}, {}}}
	if !ok || !sameDisk(got, want) {
		t.Error(got, ok)
	}
	got, ok = impl.SyncFile(d, 0)
	want = impl.Disk{Files: []impl.File{{Bytes: "one", Synced: 3}, {Bytes: "two", Synced: 2}, {}}}
	if !ok || !sameDisk(got, want) {
		t.Error(got, ok)
	}
	got, ok = impl.CutFile(d, 1, 1)
	want = impl.Disk{Files: []impl.File{{Bytes: "one", Synced: 1}, {Bytes: "t", Synced: 1}, {}}}
	if !ok || !sameDisk(got, want) {
		t.Error(got, ok)
	}
	got, ok = impl.WriteBatch(d, 2, batchAt(4, 1, "r"))
	want = impl.Disk{Files: []impl.File{{Bytes: "one", Synced: 1}, {Bytes: "two", Synced: 2}, {Bytes: plainBytes(batchAt(4, 1, "r"))}}}
	if !ok || !sameDisk(got, want) {
		t.Error(got, ok)
	}
	got, l, ok := impl.RecoverFile(d, 1)
	want = impl.Disk{Files: []impl.File{{Bytes: "one", Synced: 1}, {}, {}}}
	if !ok || len(l) != 0 || !sameDisk(got, want) {
		t.Error(got, l, ok)
	}
}

func TestAppendToAtMaxFile(t *testing.T) {
	for _, has := range []int{0, 1, 399, 400} {
		d := plainDisk{{}, filled(has, has/2)}.made()
		for _, more := range []int{0, 1, 399 - has, 400 - has, 401 - has, 600} {
			if more < 0 {
				continue
			}
			got := wantAppendTo(t, "room", d, 1, strings.Repeat("m", more))
			if fits := has+more <= impl.MaxFile; fits != (len(got.Files) == 2) {
				t.Error(has, more, got)
			}
		}
	}
}

// A file that batches fill up to its last byte, and one byte more.
func TestWriteBatchAtMaxFile(t *testing.T) {
	for _, last := range []int{35, 36, 37} {
		l := chain(3, 182, 182, last)
		d, _ := impl.NewDisk(2)
		var ok bool
		for i, b := range l {
			d, ok = wantWritten(t, "full", d, 1, b)
			if want := i < 2 || last <= 36; ok != want {
				t.Error(last, i, ok)
			}
		}
		if last == 36 && (len(d.Files[1].Bytes) != impl.MaxFile || d.Files[1].Synced != 0) {
			t.Error(d)
		}
		if last == 36 {
			wantWritten(t, "full", d, 1, nextOf(l, []string{""}))
		}
	}
}

func TestSyncFile(t *testing.T) {
	for _, f := range []plainFile{{}, {loose: "x"}, {synced: "x"}, {synced: "x", loose: "yz"}, filled(400, 7)} {
		d := plainDisk{f}.made()
		got, ok := impl.SyncFile(d, 0)
		if !ok || got.Files[0].Bytes != f.all() || got.Files[0].Synced != len(f.all()) {
			t.Error(f, got, ok)
		}
	}
}

func TestCrashDiskNumbers(t *testing.T) {
	d := plainDisk{{synced: "ab", loose: "cde"}, {synced: "fg"}, {loose: "hi"}}.made()
	got, ok := impl.CrashDisk(d, []int{1, 0, 2})
	want := impl.Disk{Files: []impl.File{{Bytes: "abc", Synced: 3}, {Bytes: "fg", Synced: 2}, {Bytes: "hi", Synced: 2}}}
	if !ok || !sameDisk(got, want) {
		t.Error(got, ok)
	}
	for _, kept := range [][]int{nil, {}, {0}, {0, 0}, {0, 0, 0, 0}} {
		if got, ok := impl.CrashDisk(d, kept); ok || len(got.Files) != 0 {
			t.Error(kept, got, ok)
		}
	}
	for a := -1; a <= 5; a++ {
		for b := -1; b <= 3; b++ {
			for c := -1; c <= 3; c++ {
				wantCrash(t, "numbers", d, []int{a, b, c})
			}
		}
	}
}

// What a crash left, a second one leaves as well: it is synced.
func TestWhatACrashLeavesIsSynced(t *testing.T) {
	for why, d := range someDisks() {
		kept := make([]int, len(d.Files))
		for i, f := range d.Files {
			kept[i] = (len(f.Bytes) - f.Synced) / 2
		}
		once := wantCrash(t, why, d, kept)
		for i, f := range once.Files {
			if f.Synced != len(f.Bytes) || f.Bytes != d.Files[i].Bytes[:d.Files[i].Synced+kept[i]] {
				t.Error(why, i, f)
			}
		}
		twice := wantCrash(t, why, once, make([]int, len(d.Files)))
		if !sameDisk(once, twice) {
			t.Error(why, once, twice)
		}
		for i := range kept {
			more := make([]int, len(d.Files))
			more[i] = 1
			wantCrash(t, why, once, more)
		}
	}
}

func TestCutFilePlaces(t *testing.T) {
	d := impl.Disk{Files: []impl.File{{Bytes: "abcdef", Synced: 4}}}
	for at, want := range map[int]impl.File{
		0: {}, 1: {Bytes: "a", Synced: 1}, 3: {Bytes: "abc", Synced: 3}, 4: {Bytes: "abcd", Synced: 4},
		5: {Bytes: "abcde", Synced: 4}, 6: {Bytes: "abcdef", Synced: 4},
	} {
		got, ok := impl.CutFile(d, 0, at)
		if !ok || len(got.Files) != 1 || got.Files[0] != want {
			t.Error(at, got, ok)
		}
	}
	for _, at := range []int{-2, -1, 7, 8} {
		if got, ok := impl.CutFile(d, 0, at); ok || len(got.Files) != 0 {
			t.Error(at, got, ok)
		}
	}
	for why, d := range someDisks() {
		for file, f := range d.Files {
			for _, at := range []int{-1, 0, 1, f.Synced - 1, f.Synced, f.Synced + 1, len(f.Bytes) - 1, len(f.Bytes), len(f.Bytes) + 1} {
				wantCutFile(t, why, d, file, at)
			}
		}
	}
}

// brokenLogs are texts that are a log up to a batch and none from there on, with
// how many batches there are ahead.
func brokenLogs() map[string]int {
	one, two := batchAt(7, 2, "a"), batchAt(8, 2, "bb")
	l := map[string]int{"": 0, "x": 0, plainBytes(one): 1, plainText([]impl.Batch{one, two}): 2}
	ahead := plainBytes(one)
	for _, next := range []impl.Batch{batchAt(7, 2, "bb"), batchAt(9, 2, "bb"), batchAt(0, 2, "bb"), batchAt(8, 1, "bb"), batchAt(8, 0, "bb"), batchAt(6, 3, "bb")} {
		l[ahead+plainBytes(next)] = 1
		l[ahead+plainBytes(next)+plainBytes(two)] = 1
	}
	l[ahead+plainRaw(plainLength(two), impl.Batch{Offset: 8, Epoch: 1001, Records: two.Records}, 1, "")] = 1
	l[ahead+plainRaw(plainLength(two)-1, impl.Batch{Offset: 8, Epoch: 2}, 0, "")] = 1
	return l
}

func TestLogsThatBreakOff(t *testing.T) {
	for s, many := range brokenLogs() {
		for _, synced := range []int{0, len(s) / 2, len(s)} {
			d := plainDisk{{synced: "z"}, {synced: s[:synced], loose: s[synced:]}}.made()
			wantDisk(t, "broken", d, 1)
			got, l, ok := impl.RecoverFile(d, 1)
			if !ok || len(l) != many || !strings.HasPrefix(s, got.Files[1].Bytes) || got.Files[1].Synced != len(plainText(l)) {
				t.Errorf("%x: %v %v %v", s, got, l, ok)
			}
		}
		d := plainDisk{{synced: s}}.made()
		if l, ok := impl.SurvivesIn(d, 0); !ok || len(l) != many {
			t.Errorf("%x: %v %v", s, l, ok)
		}
	}
}

// Bytes that end anywhere within a log, and such with a turned one.
func TestLogsThatAreTornOrTurned(t *testing.T) {
	s := someLogText()
	ends := []int{0, 16, 33, 51}
	wholeAt := func(at int) int {
		many := 0
		for _, end := range ends[1:] {
			if end <= at {
				many++
			}
		}
		return many
	}
	for at := range len(s) + 1 {
		d := plainDisk{{synced: s[:at], loose: s[at:]}}.made()
		l, ok := impl.SurvivesIn(d, 0)
		if !ok || len(l) != wholeAt(at) {
			t.Error(at, l, ok)
		}
		torn := plainDisk{{loose: s[:at]}}.made()
		got, l, ok := impl.RecoverFile(torn, 0)
		end := ends[wholeAt(at)]
		if !ok || len(l) != wholeAt(at) || got.Files[0] != (impl.File{Bytes: s[:end], Synced: end}) {
			t.Error(at, got, l, ok)
		}
		if at == len(s) {
			break
		}
		for _, by := range []int{1, 128, 255} {
			turnedAt := plainDisk{{loose: turned(s, at, by)}}.made()
			wantDisk(t, "turned", turnedAt, 0)
			got, l, ok = impl.RecoverFile(turnedAt, 0)
			if !ok || len(l) != wholeAt(at) || got.Files[0].Bytes != s[:ends[wholeAt(at)]] {
				t.Error(at, by, got, l, ok)
			}
			wantWritten(t, "turned", turnedAt, 0, batchAt(10, 3, "d"))
		}
	}
}

// What is lost behind a torn batch is lost, even where it would be whole: a log
// has no holes.
func TestNothingIsTakenBehindATear(t *testing.T) {
	s := someLogText()
	d := plainDisk{{synced: s[:20] + s[33:]}}.made()
	got, l, ok := impl.RecoverFile(d, 0)
	if !ok || len(l) != 1 || len(got.Files[0].Bytes) != 16 {
		t.Error(got, l, ok)
	}
}

func TestWriteBatchBehindALog(t *testing.T) {
	s := someLogText()
	for _, synced := range []int{0, 16, 20, len(s)} {
		d := plainDisk{{synced: s[:synced], loose: s[synced:]}, {}}.made()
		for offset := 6; offset <= 12; offset++ {
			for epoch := 1; epoch <= 5; epoch++ {
				got, ok := wantWritten(t, "behind", d, 0, batchAt(offset, epoch, "d"))
				if want := offset == 10 && epoch >= 3; ok != want {
					t.Error(offset, epoch, got, ok)
				}
				if ok && got.Files[0].Synced != synced {
					t.Error("synced", got)
				}
				if _, ok = wantWritten(t, "empty", d, 1, batchAt(offset, epoch, "d")); !ok {
					t.Error("any good batch begins an empty file", offset, epoch)
				}
			}
		}
		b := batchAt(10, 1000, "d")
		for why, bad := range map[string]impl.Batch{
			"no records": {Offset: 10, Epoch: 3},
			"too many":   {Offset: 10, Epoch: 3, Records: texts(9, 1)},
			"too long":   {Offset: 10, Epoch: 3, Records: texts(1, 21)},
			"epoch":      batchAt(10, 1001, "d"),
			"producer":   {Offset: 10, Epoch: 3, Producer: 65536, Records: b.Records},
			"seq":        {Offset: 10, Epoch: 3, Seq: -1, Records: b.Records},
		} {
			if got, ok := wantWritten(t, why, d, 0, bad); ok || len(got.Files) != 0 {
				t.Error(why, got, ok)
			}
			if _, ok := wantWritten(t, why, d, 1, bad); ok {
				t.Error(why, "in an empty file")
			}
		}
		if _, ok := wantWritten(t, "greatest epoch", d, 0, b); !ok {
			t.Error("the greatest epoch")
		}
	}
}

func TestWriteBatchIntoAnEmptyFile(t *testing.T) {
	d, _ := impl.NewDisk(1)
	for _, b := range append(someBatches(), batchAt(0, 0, ""), batchAt(100000, 1000, "x")) {
		got, ok := wantWritten(t, "empty", d, 0, b)
		if !ok || got.Files[0] != (impl.File{Bytes: plainBytes(b)}) {
			t.Error(b, got, ok)
		}
	}
	for _, b := range []impl.Batch{{}, batchAt(-1, 0, "x"), batchAt(100001, 0, "x"), batchAt(0, -1, "x")} {
		if got, ok := wantWritten(t, "empty", d, 0, b); ok || len(got.Files) != 0 {
			t.Error(b, got, ok)
		}
	}
}

// Behind a file that is no log to its end nothing is written, whatever is
// synced of it, and even where the batch may follow what is whole.
func TestWriteBatchBehindNoLog(t *testing.T) {
	s := someLogText()
	for _, text := range []string{"x", s + "x", s[:15], s[:50], s + s, s[16:] + s[:16]} {
		for _, synced := range []int{0, min(16, len(text)), len(text)} {
			d := plainDisk{{synced: text[:synced], loose: text[synced:]}}.made()
			for _, b := range []impl.Batch{batchAt(10, 3, "d"), batchAt(8, 3, "d"), batchAt(9, 3, "d"), batchAt(0, 0, "d")} {
				if got, ok := wantWritten(t, "no log", d, 0, b); ok || len(got.Files) != 0 {
					t.Errorf("%x: %v %v %v", text, b, got, ok)
				}
			}
		}
	}
}

// The end of the offsets is no end of the file: nothing may stand behind.
func TestWriteBatchAtTheLastOffset(t *testing.T) {
	d, _ := impl.NewDisk(1)
	d, _ = wantWritten(t, "last", d, 0, batchAt(99999, 0, "x"))
	d, ok := wantWritten(t, "last", d, 0, batchAt(100000, 0, "x"))
	if !ok {
		t.Error("the last offset")
	}
	if _, ok = wantWritten(t, "behind the last", d, 0, batchAt(100001, 0, "x")); ok {
		t.Error("behind the last offset")
	}
}

// wantRecovered is the promise itself: of what was written, how many of these
// batches were synced, and what a crash left of a file's bytes.
func wantRecovered(t *testing.T, written []impl.Batch, synced int, d impl.Disk, file int) {
	t.Helper()
	got, l, ok := impl.RecoverFile(d, file)
	if !ok || len(l) < synced || len(l) > len(written) || !sameLog(l, written[:len(l)]) {
		t.Fatalf("written %v, %d synced, recovered %v %v", written, synced, l, ok)
	}
	s := plainText(written[:len(l)])
	if got.Files[file] != (impl.File{Bytes: s, Synced: len(s)}) {
		t.Fatalf("written %v, left %v", written, got)
	}
	again, same, ok := impl.RecoverFile(got, file)
	if !ok || !sameDisk(again, got) || !sameLog(same, l) {
		t.Fatalf("recovered twice: %v %v", again, same)
	}
	if left, ok := impl.SurvivesIn(got, file); !ok || !sameLog(left, l) {
		t.Fatalf("survives: %v %v", left, ok)
	}
	if next := nextOf(l, []string{"on"}); plainGood(next) && len(s)+16 <= impl.MaxFile {
		if _, ok := impl.WriteBatch(got, file, next); !ok {
			t.Fatalf("no batch may follow what was recovered: %v", got)
		}
	}
}

// Every crash of every sync of a log: at each byte that it may leave.
func TestWhatIsRecoveredAfterEachCrash(t *testing.T) {
	l := chain(5, 15, 20, 31, 16)
	for synced := range len(l) + 1 {
		d, _ := impl.NewDisk(2)
		for i, b := range l {
			if i == synced {
				d, _ = impl.SyncFile(d, 1)
			}
			d, _ = impl.WriteBatch(d, 1, b)
		}
		if synced == len(l) {
			d, _ = impl.SyncFile(d, 1)
		}
		if left, ok := impl.SurvivesIn(d, 1); !ok || !sameLog(left, l[:synced]) {
			t.Fatal(synced, left, ok)
		}
		loose := len(d.Files[1].Bytes) - d.Files[1].Synced
		for kept := range loose + 1 {
			x, ok := impl.CrashDisk(d, []int{0, kept})
			if !ok {
				t.Fatal(synced, kept)
			}
			wantRecovered(t, l, synced, x, 1)
		}
	}
}

// diskRun is one file's life: what was written to it, and how much of that was
// synced.
type diskRun struct {
	written []impl.Batch
	synced  int
}

func TestWhatIsRecoveredThroughManyCrashes(t *testing.T) {
	r := newRandom()
	crashes := 0
	for range 150 {
		files := 1 + r.IntN(4)
		d, _ := impl.NewDisk(files)
		runs := make([]diskRun, files)
		for range 40 {
			file := r.IntN(files)
			run := &runs[file]
			switch r.IntN(8) {
			case 0:
				d, _ = impl.SyncFile(d, file)
				run.synced = len(run.written)
			case 1:
				kept := make([]int, files)
				for i, f := range d.Files {
					kept[i] = r.IntN(len(f.Bytes) - f.Synced + 1)
				}
				d = wantCrash(t, "run", d, kept)
				for i := range runs {
					wantRecovered(t, runs[i].written, runs[i].synced, d, i)
					var l []impl.Batch
					d, l, _ = impl.RecoverFile(d, i)
					runs[i] = diskRun{written: l, synced: len(l)}
				}
				crashes++
			default:
				b := nextOf(run.written, randomRecords(r))
				b.Epoch += r.IntN(2)
				if next, ok := wantWritten(t, "run", d, file, b); ok {
					d, run.written = next, append(slices.Clip(run.written), b)
				}
			}
		}
	}
	if crashes < 300 {
		t.Error("too few crashes to tell", crashes)
	}
}

func TestRandomDisks(t *testing.T) {
	r := newRandom()
	for range 1500 {
		p := randomDisk(r)
		d := p.made()
		file := r.IntN(len(p))
		wantDisk(t, "random", d, file)
		wantAppendTo(t, "random", d, file, randomText(r, 60))
		wantCutFile(t, "random", d, file, r.IntN(len(p[file].all())+2)-1)
		kept := make([]int, len(p))
		for i, f := range p {
			kept[i] = r.IntN(len(f.loose) + 1)
		}
		wantCrash(t, "random", d, kept)
		kept[file] = len(p[file].loose) + 1
		wantCrash(t, "random", d, kept)
		l, _, _ := plainRead(p[file].all())
		b := nextOf(l, randomRecords(r))
		wantWritten(t, "random", d, file, b)
		b.Offset += r.IntN(3) - 1
		b.Epoch += r.IntN(3) - 1
		wantWritten(t, "random", d, file, b)
	}
}

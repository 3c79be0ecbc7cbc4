package tests

import (
	"math"
	"strings"
	"testing"

	"loop.example/g00361/impl"
)

// Promise 19 for chapter 3: answers at any arguments, nothing written into an
// argument, no memory shared.

func TestAnyDiskIsAnswered(t *testing.T) {
	var l []impl.Disk
	for _, n := range oddNumbers() {
		l = append(l,
			impl.Disk{Files: []impl.File{{Synced: n}}},
			impl.Disk{Files: []impl.File{{Bytes: someLogText(), Synced: n}}},
			impl.Disk{Files: []impl.File{{Bytes: "x"}, {Bytes: someLogText(), Synced: n}, {}}})
	}
	l = append(l,
		impl.Disk{Files: make([]impl.File, 1<<16)},
		impl.Disk{Files: []impl.File{{Bytes: strings.Repeat("x", 1<<20)}}},
		impl.Disk{Files: []impl.File{{Bytes: strings.Repeat("x", 1<<20), Synced: 1 << 20}}},
		impl.Disk{Files: []impl.File{{Bytes: strings.Repeat("x", 601), Synced: 601}}})
	for _, d := range l {
		for _, n := range append(oddNumbers(), len(d.Files)-1) {
			wantDisk(t, "odd", d, n)
			wantAppendTo(t, "odd", d, n, "x")
			wantCutFile(t, "odd", d, n, 0)
			wantCutFile(t, "odd", d, 0, n)
			wantCrash(t, "odd", d, []int{n})
			wantCrash(t, "odd", d, []int{0, n, 0})
			wantWritten(t, "odd", d, n, batchAt(10, 3, "x"))
		}
		wantCrash(t, "odd", d, make([]int, len(d.Files)))
	}
}

func TestAnyArgumentsOfDisksAreAnswered(t *testing.T) {
	d := someDisks()["as many as may"]
	for _, n := range oddNumbers() {
		got, ok := impl.NewDisk(n)
		if ok != (n >= 1 && n <= 4) || ok != impl.GoodDisk(got) || !ok && len(got.Files) != 0 {
			t.Error(n, got, ok)
		}
		wantDisk(t, "file", d, n)
		for file := range d.Files {
			wantCutFile(t, "place", d, file, n)
			kept := make([]int, 4)
			kept[file] = n
			wantCrash(t, "kept", d, kept)
		}
	}
	for _, b := range oddBatches() {
		for file := range d.Files {
			wantWritten(t, "odd batch", d, file, b)
		}
	}
	for _, size := range []int{400, 401, 600, 601, 1 << 20} {
		wantAppendTo(t, "long", d, 0, strings.Repeat("x", size))
	}
	wantCrash(t, "many numbers", d, make([]int, 1<<16))
	wantCrash(t, "the least and the greatest", d, []int{math.MinInt, math.MaxInt, 0, 0})
}

// roomyDisk is the same disk with room behind its list's length, and what is
// there would be taken for more files.
func roomyDisk(d impl.Disk) (impl.Disk, []impl.File) {
	memory := append(append([]impl.File(nil), d.Files...), impl.File{Bytes: "behind", Synced: 2}, impl.File{Synced: -9})
	return impl.Disk{Files: memory[:len(d.Files)]}, memory
}

func TestDisksStayAsTheyAre(t *testing.T) {
	disks := badDisks()
	for why, d := range someDisks() {
		disks[why] = d
	}
	for why, first := range disks {
		d, memory := roomyDisk(first)
		before := impl.Disk{Files: append([]impl.File(nil), memory...)}
		many := len(first.Files)
		numbers := append(make([]int, many), 7, -7)
		b, records := withRoom(batchAt(10, 3, "x"))
		for file := -1; file <= many; file++ {
			wantDisk(t, why, d, file)
			wantAppendTo(t, why, d, file, "xy")
			wantCutFile(t, why, d, file, 0)
			wantCutFile(t, why, d, file, 1)
			wantWritten(t, why, d, file, b)
		}
		wantCrash(t, why, d, numbers[:many])
		if !sameDisk(impl.Disk{Files: memory}, before) {
			t.Error("written into the disk:", why)
		}
		for i, n := range numbers {
			if want := append(make([]int, many), 7, -7)[i]; n != want {
				t.Error("written into the numbers:", why)
			}
		}
		if records[0] != "x" || records[1] != "behind" || records[2] != strings.Repeat("b", 21) {
			t.Error("written into the records:", why)
		}
	}
}

// wantNewDisk asks that no list or text of the answer is one of the disk's, nor
// two of the answer's one memory.
func wantNewDisk(t *testing.T, why string, d impl.Disk, got impl.Disk) {
	t.Helper()
	if listsShare(d.Files, got.Files) {
		t.Error(why, "shares the files")
	}
	for i, f := range got.Files {
		for k, g := range d.Files {
			if stringsShare(f.Bytes, g.Bytes) {
				t.Error(why, "shares bytes", i, k)
			}
		}
		for k, g := range got.Files {
			if k != i && stringsShare(f.Bytes, g.Bytes) {
				t.Error(why, "two of one answer share", i, k)
			}
		}
	}
}

// wantOwnBatches asks that batches share nothing with each other or a disk.
func wantOwnBatches(t *testing.T, why string, d impl.Disk, l []impl.Batch) {
	t.Helper()
	for i, b := range l {
		for k := range l {
			if k != i && listsShare(b.Records, l[k].Records) {
				t.Error(why, "two of one answer share", i, k)
			}
		}
		for _, record := range b.Records {
			for k, f := range d.Files {
				if stringsShare(record, f.Bytes) {
					t.Error(why, "a record shares bytes", i, k)
				}
			}
		}
	}
}

// sharedDisks are good ones whose files are pieces of one memory.
func sharedDisks() map[string]impl.Disk {
	s := someLogText()
	disks := someDisks()
	disks["one text"] = impl.Disk{Files: []impl.File{{Bytes: s}, {Bytes: s, Synced: 20}, {Bytes: s[16:], Synced: 3}, {Bytes: s[:40], Synced: 40}}}
	return disks
}

func TestDisksShareNoMemory(t *testing.T) {
	for why, first := range sharedDisks() {
		d, _ := roomyDisk(first)
		for file, f := range d.Files {
			for _, s := range []string{"", "xy", d.Files[0].Bytes} {
				got, _ := impl.AppendTo(d, file, s)
				wantNewDisk(t, why+": append", d, got)
				wantNewDisk(t, why+": appended", impl.Disk{Files: []impl.File{{Bytes: s}}}, got)
			}
			got, _ := impl.SyncFile(d, file)
			wantNewDisk(t, why+": sync", d, got)
			for _, at := range []int{0, 1, f.Synced, len(f.Bytes)} {
				got, _ = impl.CutFile(d, file, at)
				wantNewDisk(t, why+": cut", d, got)
			}
			got, l, _ := impl.RecoverFile(d, file)
			wantNewDisk(t, why+": recover", d, got)
			wantOwnBatches(t, why+": recover", d, l)
			wantOwnBatches(t, why+": recovered", got, l)
			l, _ = impl.SurvivesIn(d, file)
			wantOwnBatches(t, why+": survives", d, l)
			b := batchAt(10, 3, strings.Repeat("r", 20))
			got, _ = impl.WriteBatch(d, file, b)
			wantNewDisk(t, why+": write", d, got)
			wantOwnBatches(t, why+": written", got, []impl.Batch{b})
		}
		kept := make([]int, len(d.Files))
		got, _ := impl.CrashDisk(d, kept)
		wantNewDisk(t, why+": crash to what is synced", d, got)
		for i, f := range d.Files {
			kept[i] = len(f.Bytes) - f.Synced
		}
		got, _ = impl.CrashDisk(d, kept)
		wantNewDisk(t, why+": crash that leaves all", d, got)
	}
}

// What is refused hands out nothing, not even an empty list with memory of an
// argument behind it.
func TestRefusedDisksHandOutNothing(t *testing.T) {
	memory := []impl.File{{Bytes: "x"}, {Bytes: "y"}}
	for _, d := range []impl.Disk{{Files: memory[:0]}, {Files: memory}} {
		answers := map[string]impl.Disk{}
		answers["append"], _ = impl.AppendTo(d, 2, "x")
		answers["sync"], _ = impl.SyncFile(d, 2)
		answers["cut"], _ = impl.CutFile(d, 2, 0)
		answers["recover"], _, _ = impl.RecoverFile(d, 2)
		answers["write"], _ = impl.WriteBatch(d, 2, batchAt(0, 0, "x"))
		answers["crash"], _ = impl.CrashDisk(d, make([]int, 3))
		if len(d.Files) == 0 {
			answers["crash of none"], _ = impl.CrashDisk(d, nil)
		}
		for why, got := range answers {
			if len(got.Files) != 0 || listsShare(got.Files, memory) {
				t.Error(why, got)
			}
		}
	}
}

// What is done to an answer, up to the end of its memory, is not seen in the
// disk, nor in what is answered next.
func TestAnsweredDisksMayBeWrittenInto(t *testing.T) {
	spoil := func(d impl.Disk) {
		all := d.Files[:cap(d.Files)]
		for i := range all {
			all[i] = impl.File{Bytes: "spoilt", Synced: -1}
		}
	}
	for why, first := range someDisks() {
		d, memory := roomyDisk(first)
		before := impl.Disk{Files: append([]impl.File(nil), memory...)}
		for range 2 {
			fresh, _ := impl.NewDisk(len(d.Files))
			if !sameDisk(fresh, impl.Disk{Files: make([]impl.File, len(d.Files))}) {
				t.Error("a new disk is not new")
			}
			spoil(fresh)
			spoil(wantAppendTo(t, why, d, 0, ""))
			spoil(wantCutFile(t, why, d, 0, 0))
			spoil(wantCrash(t, why, d, make([]int, len(d.Files))))
			synced, _ := impl.SyncFile(d, 0)
			spoil(synced)
			got, l, _ := impl.RecoverFile(d, 0)
			spoil(got)
			for _, b := range l {
				b.Records[0] = "spoilt"
			}
			l, _ = impl.SurvivesIn(d, 0)
			for _, b := range l {
				b.Records[0] = "spoilt"
			}
			wantDisk(t, why, d, 0)
		}
		if !sameDisk(impl.Disk{Files: memory}, before) {
			t.Error("written into the disk:", why)
		}
	}
}

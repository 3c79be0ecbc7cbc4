package tests

import (
	"math/rand/v2"
	"strings"

	"loop.example/g00361/impl"
)

// What chapter 3 says, written once more in the plainest way: each file is two
// texts, what is synced and what comes behind it.

type plainFile struct {
	synced string
	loose  string
}

type plainDisk []plainFile

func (f plainFile) all() string {
	return f.synced + f.loose
}

func (p plainDisk) made() impl.Disk {
	var d impl.Disk
	for _, f := range p {
		d.Files = append(d.Files, impl.File{Bytes: f.all(), Synced: len(f.synced)})
	}
	return d
}

// readDisk tells of any disk whether it is good, and what is in it.
func readDisk(d impl.Disk) (plainDisk, bool) {
	if len(d.Files) == 0 || len(d.Files) > 4 {
		return nil, false
	}
	var p plainDisk
	for _, f := range d.Files {
		if len(f.Bytes) > 400 || f.Synced < 0 || f.Synced > len(f.Bytes) {
			return nil, false
		}
		p = append(p, plainFile{synced: f.Bytes[:f.Synced], loose: f.Bytes[f.Synced:]})
	}
	return p, true
}

func (p plainDisk) has(file int) bool {
	return file >= 0 && file < len(p)
}

// with has another file in one's place.
func (p plainDisk) with(file int, f plainFile) plainDisk {
	out := append(plainDisk(nil), p...)
	out[file] = f
	return out
}

func (p plainDisk) appended(file int, s string) (plainDisk, bool) {
	if !p.has(file) || len(p[file].all())+len(s) > 400 {
		return nil, false
	}
	return p.with(file, plainFile{synced: p[file].synced, loose: p[file].loose + s}), true
}

func (p plainDisk) flushed(file int) (plainDisk, bool) {
	if !p.has(file) {
		return nil, false
	}
	return p.with(file, plainFile{synced: p[file].all()}), true
}

func (p plainDisk) crashed(kept []int) (plainDisk, bool) {
	if len(kept) != len(p) {
		return nil, false
	}
	var out plainDisk
	for i, f := range p {
		if kept[i] < 0 || kept[i] > len(f.loose) {
			return nil, false
		}
		out = append(out, plainFile{synced: f.synced + f.loose[:kept[i]]})
	}
	return out, true
}

func (p plainDisk) cut(file int, at int) (plainDisk, bool) {
	if !p.has(file) || at < 0 || at > len(p[file].all()) {
		return nil, false
	}
	f := p[file]
	if at <= len(f.synced) {
		return p.with(file, plainFile{synced: f.synced[:at]}), true
	}
	return p.with(file, plainFile{synced: f.synced, loose: f.all()[len(f.synced):at]}), true
}

func (p plainDisk) recovered(file int) (plainDisk, []impl.Batch, bool) {
	if !p.has(file) {
		return nil, nil, false
	}
	l, _, _ := plainRead(p[file].all())
	return p.with(file, plainFile{synced: plainText(l)}), l, true
}

func (p plainDisk) written(file int, b impl.Batch) (plainDisk, bool) {
	if !p.has(file) || !plainGood(b) {
		return nil, false
	}
	l, _, whole := plainRead(p[file].all())
	if !whole || len(l) > 0 && !plainFollows(l[len(l)-1], b) {
		return nil, false
	}
	return p.appended(file, plainBytes(b))
}

func (p plainDisk) survives(file int) ([]impl.Batch, bool) {
	if !p.has(file) {
		return nil, false
	}
	l, _, _ := plainRead(p[file].synced)
	return l, true
}

func sameDisk(a, b impl.Disk) bool {
	if len(a.Files) != len(b.Files) {
		return false
	}
	for i := range a.Files {
		if a.Files[i] != b.Files[i] {
			return false
		}
	}
	return true
}

// sameAsPlain asks that a disk is as told, or the zero answer where none is.
func sameAsPlain(d impl.Disk, ok bool, want plainDisk, wanted bool) bool {
	return ok == wanted && sameDisk(d, want.made())
}

// batchAt is a batch with one record.
func batchAt(offset int, epoch int, record string) impl.Batch {
	return impl.Batch{Offset: offset, Epoch: epoch, Records: []string{record}}
}

// nextOf is a batch that may stand behind a log.
func nextOf(l []impl.Batch, records []string) impl.Batch {
	b := impl.Batch{Records: records}
	if len(l) > 0 {
		last := l[len(l)-1]
		b.Offset, b.Epoch = last.Offset+len(last.Records), last.Epoch
	}
	return b
}

// randomFile is a log or the beginning of one, sometimes with bytes that were
// turned, or with others behind.
func randomFile(r *rand.Rand) plainFile {
	s := plainText(randomLog(r))
	s = s[:min(len(s), 400)]
	switch r.IntN(4) {
	case 0:
		s = s[:r.IntN(len(s)+1)]
	case 1:
		if len(s) > 0 {
			s = turned(s, r.IntN(len(s)), 1+r.IntN(255))
		}
	case 2:
		s += randomText(r, min(20, 400-len(s)))
	default:
		l, _, _ := plainRead(s)
		s = plainText(l)
	}
	at := r.IntN(len(s) + 1)
	if r.IntN(4) == 0 {
		at = len(s) * r.IntN(2)
	}
	return plainFile{synced: s[:at], loose: s[at:]}
}

func randomDisk(r *rand.Rand) plainDisk {
	var p plainDisk
	for range 1 + r.IntN(4) {
		p = append(p, randomFile(r))
	}
	return p
}

// filled is a file of just so many bytes, the first so many of them synced.
func filled(bytes int, synced int) plainFile {
	return plainFile{synced: strings.Repeat("f", synced), loose: strings.Repeat("l", bytes-synced)}
}

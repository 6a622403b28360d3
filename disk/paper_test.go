package disk_test

import (
	"bytes"
	"slices"
	"testing"

	"scullery/api"
	"scullery/disk"
)

// paper is a disk as the document words it, clause by clause, with nothing shared with the program: what lasts, and, one behind the other, all writes that wait.
type paper struct {
	sectors, size int
	broken        []int
	firm          map[int][]byte
	writes        []int
	written       [][]byte
}

// onPaper is a new disk, of numbers that may be.
func onPaper(sectors, size int, broken []int) *paper {
	p := &paper{sectors: sectors, size: size, broken: broken, firm: map[int][]byte{}}
	for at := range sectors {
		p.firm[at] = make([]byte, size)
	}
	return p
}

// What a disk is asked, each by its number.
const reading, firming, writing, flushing, crashing = 0, 1, 2, 3, 4

// step is one thing that a disk is asked.
type step struct {
	which, at, many, seed int
	keep                  []bool
}

// told is what a step is told, and what waits behind it.
type told struct {
	b       []byte
	code    api.Errno
	lasted  int
	waiting []int
}

// same tells whether two steps were told the same.
func (x told) same(y told) bool {
	return bytes.Equal(x.b, y.b) && x.code == y.code && x.lasted == y.lasted && slices.Equal(x.waiting, y.waiting)
}

// do answers what a disk is to answer, and does what it is to do.
func (p *paper) do(s step) told {
	var x told
	switch s.which {
	case flushing:
		for i, at := range p.writes {
			p.firm[at] = p.written[i]
		}
		p.writes, p.written = nil, nil
	case crashing:
		for i, at := range p.writes {
			if len(s.keep) > 0 && s.keep[i%len(s.keep)] {
				p.firm[at] = p.written[i]
				x.lasted++
			}
		}
		p.writes, p.written = nil, nil
	default:
		x.b, x.code = p.touch(s)
	}
	x.waiting = slices.Clone(p.writes)
	return x
}

// touch is a Read, a Firm or a Write.
func (p *paper) touch(s step) ([]byte, api.Errno) {
	if s.at < 0 || s.at >= p.sectors || s.which == writing && s.many != p.size {
		return nil, api.ErrInvalid
	}
	if slices.Contains(p.broken, s.at) {
		return nil, api.ErrFail
	}
	switch s.which {
	case writing:
		p.writes = append(p.writes, s.at)
		p.written = append(p.written, some(s.many, s.seed))
		return nil, api.OK
	case firming:
		return p.firm[s.at], api.OK
	}
	for i := len(p.writes) - 1; i >= 0; i-- {
		if p.writes[i] == s.at {
			return p.written[i], api.OK
		}
	}
	return p.firm[s.at], api.OK
}

// played asks a disk for one step.
func played(d *disk.Disk, s step) told {
	var x told
	var e error
	switch s.which {
	case reading:
		x.b, e = d.Read(s.at)
	case firming:
		x.b, e = d.Firm(s.at)
	case writing:
		e = d.Write(s.at, some(s.many, s.seed))
	case flushing:
		e = d.Flush()
	default:
		x.lasted = d.Crash(s.keep...)
	}
	x.code, x.waiting = api.Code(e), d.Waiting()
	return x
}

// wantAsWorded fails, if a disk does in one of these steps, or in the reading of all its sectors behind each of them, something else than the document words.
func wantAsWorded(t *testing.T, sectors, size int, broken []int, steps []step) bool {
	t.Helper()
	d, p := made(t, sectors, size, broken...), onPaper(sectors, size, broken)
	one := func(s step) bool {
		if got, want := played(d, s), p.do(s); !got.same(want) {
			t.Errorf("%d, %d, %v, %+v: at %+v: %+v, not %+v", sectors, size, broken, steps, s, got, want)
			return false
		}
		return true
	}
	for _, s := range steps {
		if !one(s) {
			return false
		}
		for at := -1; at <= sectors; at++ {
			if !one(step{which: reading, at: at}) || !one(step{which: firming, at: at}) {
				return false
			}
		}
	}
	return d.Sectors() == sectors && d.Size() == size
}

// P9.1: each script of five steps does what the document words.
func TestShortScripts(t *testing.T) {
	kinds := []step{
		{which: writing, at: 0, many: size}, {which: writing, at: 1, many: size}, {which: writing, at: 2, many: size}, {which: writing, at: 0, many: size - 1},
		{which: flushing}, {which: crashing}, {which: crashing, keep: []bool{true}}, {which: crashing, keep: []bool{false, true}}, {which: crashing, keep: []bool{true, false, false, true}},
	}
	scripts := 1
	for range 5 {
		scripts *= len(kinds)
	}
	for n := range scripts {
		var steps []step
		for i := range 5 {
			s := kinds[n%len(kinds)]
			s.seed = i
			steps = append(steps, s)
			n /= len(kinds)
		}
		if !wantAsWorded(t, 3, size, []int{2}, steps) {
			return
		}
	}
}

// dice is what wander's numbers come from: the same ones of the same seed.
type dice struct{ state uint64 }

// roll answers a number from 0 to below many.
func (d *dice) roll(many int) int {
	d.state = d.state*6364136223846793005 + 1442695040888963407
	return int((d.state >> 33) % uint64(many))
}

// wander plays a script of so many steps, which a seed tells, on a disk and on paper.
func wander(t *testing.T, seed, many int) bool {
	d := &dice{uint64(seed)*2654435761 + 12345}
	sectors, size := 1+d.roll(6), leastSize+d.roll(mostSize-leastSize+1)
	if d.roll(20) == 0 {
		sectors = mostSectors - d.roll(2)
	}
	var broken []int
	for range d.roll(3) {
		broken = append(broken, d.roll(sectors+2)-1)
	}
	var steps []step
	for i := range many {
		s := step{which: []int{reading, firming, writing, writing, writing, writing, writing, writing, flushing, crashing}[d.roll(10)], at: d.roll(sectors), many: size, seed: i}
		switch d.roll(12) {
		case 0:
			s.at = d.roll(sectors+2) - 1
		case 1:
			s.many += d.roll(3) - 1
		}
		for range d.roll(7) {
			s.keep = append(s.keep, d.roll(2) == 1)
		}
		steps = append(steps, s)
	}
	return wantAsWorded(t, sectors, size, broken, steps)
}

// P9.1: long scripts, on disks of many kinds, do what the document words.
func TestLongScripts(t *testing.T) {
	for seed := range 300 {
		if !wander(t, seed, 60) {
			return
		}
	}
}
